package tests

import (
	"fmt"
	"math/rand"
	"slices"
	"strings"
	"testing"

	"loop.example/g00378/impl"
)

func sameNode(a, b impl.Node) bool {
	return a.Id == b.Id && a.Parent == b.Parent && a.Name == b.Name && slices.Equal(a.Props, b.Props)
}

// sameTree: an empty list and none are the same.
func sameTree(a, b impl.Tree) bool {
	return slices.EqualFunc(a.Nodes, b.Nodes, sameNode)
}

// apart tells in what two trees differ first: whole ones may be long.
func apart(got, want impl.Tree) string {
	for i := range min(len(got.Nodes), len(want.Nodes)) {
		if !sameNode(got.Nodes[i], want.Nodes[i]) {
			return fmt.Sprintf("at %d: got %+v, want %+v", i, got.Nodes[i], want.Nodes[i])
		}
	}
	return fmt.Sprintf("got %d nodes, want %d", len(got.Nodes), len(want.Nodes))
}

// copied is new memory, but for the texts.
func copied(t impl.Tree) impl.Tree {
	var own impl.Tree
	for _, n := range t.Nodes {
		n.Props = slices.Clone(n.Props)
		own.Nodes = append(own.Nodes, n)
	}
	return own
}

func nodeIn(t impl.Tree, id int64) *impl.Node {
	for i := range t.Nodes {
		if t.Nodes[i].Id == id {
			return &t.Nodes[i]
		}
	}
	return nil
}

// doneByHand does a right deed to a right tree, by the words of chapter 4 and
// without any of the program's functions.
func doneByHand(t impl.Tree, o impl.Op) impl.Tree {
	t = copied(t)
	n := nodeIn(t, o.Node)
	if o.Kind == impl.OpSet {
		if n != nil {
			setByHand(n, o)
		}
		return t
	}
	for up := o.Parent; up != 0 && up != 1; up = nodeIn(t, up).Parent {
		if up == o.Node || nodeIn(t, up) == nil {
			return t
		}
	}
	if n != nil {
		n.Parent, n.Name = o.Parent, o.Name
	} else if len(t.Nodes) < impl.MaxOps {
		t.Nodes = append(t.Nodes, nodeAt(o.Node, o.Parent, o.Name))
		slices.SortFunc(t.Nodes, func(a, b impl.Node) int { return int(a.Id - b.Id) })
	}
	return t
}

func setByHand(n *impl.Node, o impl.Op) {
	for i := range n.Props {
		if n.Props[i].Key == o.Name {
			n.Props[i].Value = o.Value
			return
		}
	}
	if len(n.Props) < 20 {
		n.Props = append(n.Props, impl.Prop{Key: o.Name, Value: o.Value})
		slices.SortFunc(n.Props, func(a, b impl.Prop) int { return strings.Compare(a.Key, b.Key) })
	}
}

func wantDone(t *testing.T, what string, tree impl.Tree, o impl.Op, want impl.Tree) {
	t.Helper()
	was := copied(tree)
	got := impl.TreeDo(tree, o)
	if !sameTree(got, want) {
		t.Errorf("TreeDo, %s, %+v: %s", what, o, apart(got, want))
	}
	if !sameTree(tree, was) {
		t.Errorf("TreeDo, %s, %+v: the tree that is handed in is not as it was", what, o)
	}
}

// wantKept: the deed leaves the tree as it is.
func wantKept(t *testing.T, what string, tree impl.Tree, o impl.Op) {
	t.Helper()
	wantDone(t, what, tree, o, copied(tree))
}

func mv(node, parent int64, name string) impl.Op {
	return moveOp(1, 1, node, parent, name)
}

func set(node int64, key, value string) impl.Op {
	return setOp(1, 1, node, key, value)
}

func TestMoveOfANewNode(t *testing.T) {
	wantDone(t, "below the root", impl.Tree{}, mv(2, 0, "a"), treeOf(nodeAt(2, 0, "a")))
	wantDone(t, "below the trash", impl.Tree{}, mv(impl.MaxTime, 1, "a"), treeOf(nodeAt(impl.MaxTime, 1, "a")))
	base := treeOf(nodeAt(4, 0, "a", manyProps(2)...), nodeAt(6, 4, "b"))
	wantDone(t, "ahead of all", base, mv(3, 6, "n"), treeOf(nodeAt(3, 6, "n"), base.Nodes[0], base.Nodes[1]))
	wantDone(t, "between", base, mv(5, 4, "n"), treeOf(base.Nodes[0], nodeAt(5, 4, "n"), base.Nodes[1]))
	wantDone(t, "behind all", base, mv(7, 1, "n"), treeOf(base.Nodes[0], base.Nodes[1], nodeAt(7, 1, "n")))
	wantDone(t, "of a name that is there", base, mv(7, 4, "b"), treeOf(base.Nodes[0], base.Nodes[1], nodeAt(7, 4, "b")))
}

func TestMoveOfANodeThatIsThere(t *testing.T) {
	props := manyProps(3)
	base := treeOf(nodeAt(2, 0, "a", props...), nodeAt(3, 2, "b", props...), nodeAt(4, 3, "c"), nodeAt(5, 1, "d"))
	for _, parent := range []int64{0, 1, 2, 5} {
		want := copied(base)
		want.Nodes[1] = nodeAt(3, parent, "new", props...)
		wantDone(t, "its Props stay", base, mv(3, parent, "new"), want)
	}
	wantKept(t, "to where it is", base, mv(3, 2, "b"))
	want := copied(base)
	want.Nodes[0].Parent = 5
	wantDone(t, "with all below it", base, mv(2, 5, "a"), want)
}

func TestMoveThatChangesNothing(t *testing.T) {
	base := treeOf(nodeAt(2, 0, "a"), nodeAt(3, 2, "b", manyProps(1)...), nodeAt(4, 3, "c"), nodeAt(5, 4, "d"))
	for _, o := range []impl.Op{
		mv(6, 7, "x"), mv(3, 7, "x"), mv(3, impl.MaxTime, "x"), // below none
		mv(6, 6, "x"), mv(3, 3, "x"), mv(5, 5, "x"), // below itself
		mv(2, 3, "x"), mv(2, 4, "x"), mv(2, 5, "x"), mv(3, 4, "x"), mv(3, 5, "x"), mv(4, 5, "x"), // below what is below it
	} {
		wantKept(t, "a move below what may not be", base, o)
		wantKept(t, "a move in the zero Tree", impl.Tree{}, mv(o.Node, max(o.Parent, 2), "x"))
	}
	chain := downChain(impl.MaxOps)
	wantKept(t, "the first below the last of a chain", chain, mv(2, impl.MaxOps+1, "x"))
	wantKept(t, "the last below itself", chain, mv(impl.MaxOps+1, impl.MaxOps+1, "x"))
	up := upChain(impl.MaxOps)
	wantKept(t, "the last below the first of a chain up", up, mv(impl.MaxOps+1, 2, "x"))
}

func TestMoveAtMaxOps(t *testing.T) {
	for _, most := range []impl.Tree{flatTree(impl.MaxOps), downChain(impl.MaxOps), upChain(impl.MaxOps)} {
		wantKept(t, "a new node", most, mv(impl.MaxTime, 0, "x"))
		wantKept(t, "a new node below one that is there", most, mv(impl.MaxOps+2, 5, "x"))
		want := copied(most)
		want.Nodes[7].Parent, want.Nodes[7].Name = 1, "x"
		wantDone(t, "a node that is there", most, mv(9, 1, "x"), want)
		less := copied(most)
		less.Nodes = slices.Delete(less.Nodes, 0, 1)
		for i := range less.Nodes {
			less.Nodes[i].Parent = 0
		}
		wantDone(t, "the last new one", less, mv(2, 3, "x"), impl.Tree{Nodes: slices.Insert(copied(less).Nodes, 0, nodeAt(2, 3, "x"))})
	}
}

func TestSetOfProps(t *testing.T) {
	p := func(key, value string) impl.Prop { return impl.Prop{Key: key, Value: value} }
	base := treeOf(nodeAt(2, 0, "a"), nodeAt(3, 2, "b", p("d", "1"), p("f", "2")), nodeAt(4, 3, "c", p("d", "9")))
	for _, c := range []struct {
		key, value string
		want       []impl.Prop
	}{
		{"c", "new", []impl.Prop{p("c", "new"), p("d", "1"), p("f", "2")}},
		{"e", "new", []impl.Prop{p("d", "1"), p("e", "new"), p("f", "2")}},
		{"d0", "new", []impl.Prop{p("d", "1"), p("d0", "new"), p("f", "2")}},
		{"g", "new", []impl.Prop{p("d", "1"), p("f", "2"), p("g", "new")}},
		{"g", "", []impl.Prop{p("d", "1"), p("f", "2"), p("g", "")}},
		{"d", "new", []impl.Prop{p("d", "new"), p("f", "2")}},
		{"f", "new", []impl.Prop{p("d", "1"), p("f", "new")}},
		{"f", "", []impl.Prop{p("d", "1"), p("f", "")}},
		{"f", strings.Repeat("\xff", 40), []impl.Prop{p("d", "1"), p("f", strings.Repeat("\xff", 40))}},
		{"f", "2", []impl.Prop{p("d", "1"), p("f", "2")}},
	} {
		want := copied(base)
		want.Nodes[1].Props = c.want
		wantDone(t, "a set", base, set(3, c.key, c.value), want)
	}
	want := copied(base)
	want.Nodes[0].Props = []impl.Prop{p("k", "v")}
	wantDone(t, "the first Prop of a node", base, set(2, "k", "v"), want)
	for _, node := range []int64{5, impl.MaxTime} {
		wantKept(t, "a set of no node", base, set(node, "k", "v"))
		wantKept(t, "a set of no node in the zero Tree", impl.Tree{}, set(node, "k", "v"))
		wantKept(t, "a set of no node at MaxOps", flatTree(impl.MaxOps), set(max(node, 900), "k", "v"))
	}
}

func TestSetAtTwentyProps(t *testing.T) {
	full := manyProps(20)
	base := treeOf(nodeAt(2, 0, "a", full...), nodeAt(3, 2, "b", full[1:]...))
	for _, key := range []string{"a", "ka0", "kz", "z"} {
		wantKept(t, "a Key that is not there", base, set(2, key, "v"))
	}
	for i := range full {
		want := copied(base)
		want.Nodes[0].Props[i].Value = "new"
		wantDone(t, "a Key that is there", base, set(2, full[i].Key, "new"), want)
	}
	want := copied(base)
	want.Nodes[1].Props = slices.Clone(full)
	wantDone(t, "the twentieth Key", base, set(3, full[0].Key, full[0].Value), want)
}

func TestDeedsThatAreNotRight(t *testing.T) {
	base := smallTree()
	for _, o := range []impl.Op{
		{}, moveOp(0, 1, 3, 0, "x"), moveOp(impl.MaxTime+1, 1, 3, 0, "x"), moveOp(1, 0, 3, 0, "x"), moveOp(1, 51, 3, 0, "x"),
		mv(0, 0, "x"), mv(1, 0, "x"), mv(impl.MaxTime+1, 0, "x"), mv(3, -1, "x"), mv(3, 0, ""), mv(3, 0, "X"), mv(20, 0, "x y"),
		{Time: 1, Replica: 1, Kind: impl.OpMove, Node: 3, Name: "x", Value: "v"},
		{Time: 1, Replica: 1, Kind: 0, Node: 3, Name: "x"}, {Time: 1, Replica: 1, Kind: 3, Node: 3, Name: "x"},
		{Time: 1, Replica: 1, Kind: impl.OpSet, Node: 3, Parent: 2, Name: "k", Value: "v"},
		set(3, "", "v"), set(3, "K", "v"), set(3, "k", strings.Repeat("v", 41)), set(1, "k", "v"), set(0, "k", "v"),
	} {
		wantKept(t, "a deed that is not right", base, o)
		wantKept(t, "neither of them right", ringTree(3), o)
	}
}

func TestDeedsToTreesThatAreNotRight(t *testing.T) {
	wrongProps := impl.Tree{Nodes: []impl.Node{nodeAt(2, 0, "a", manyProps(21)...), nodeAt(3, 2, "b", manyProps(2)...)}}
	for what, tree := range map[string]impl.Tree{
		"a ring of one":         ringTree(1),
		"a ring of two":         ringTree(2),
		"a ring of MaxOps":      ringTree(impl.MaxOps),
		"one too many":          flatTree(impl.MaxOps + 1),
		"many too many":         flatTree(5000),
		"falling Ids":           treeOf(nodeAt(3, 0, "a"), nodeAt(2, 0, "b")),
		"one Id twice":          treeOf(nodeAt(2, 0, "a"), nodeAt(2, 1, "b")),
		"a Parent that is none": treeOf(nodeAt(2, 7, "a"), nodeAt(3, 0, "b")),
		"no name":               treeOf(nodeAt(2, 0, "a"), nodeAt(3, 0, "", manyProps(1)...)),
		"21 Props":              wrongProps,
		"the zero Node":         treeOf(impl.Node{}),
	} {
		for _, o := range []impl.Op{mv(2, 0, "x"), mv(2, 1, "x"), mv(3, 0, "x"), mv(7, 0, "x"), set(2, "k", "v"), set(3, "ka", "v")} {
			wantKept(t, what, tree, o)
		}
	}
}

// anyTree: right, with Parents of lesser and greater Ids, the same each time
// the tests run.
func anyTree(r *rand.Rand, many int) impl.Tree {
	var t impl.Tree
	ids := []int64{0, 1}
	for _, at := range r.Perm(many) {
		id := int64(at + 2)
		props := manyProps(20)
		n := nodeAt(id, ids[r.Intn(len(ids))], string(rune('a'+r.Intn(26))))
		for _, p := range props {
			if r.Intn(3) > 0 {
				n.Props = append(n.Props, p)
			}
		}
		t.Nodes = append(t.Nodes, n)
		ids = append(ids, id)
	}
	slices.SortFunc(t.Nodes, func(a, b impl.Node) int { return int(a.Id - b.Id) })
	return t
}

// anyOp: of nodes and Parents that are there and that are none.
func anyOp(r *rand.Rand, many int) impl.Op {
	node := int64(2 + r.Intn(many+2))
	if r.Intn(3) == 0 {
		return set(node, "k"+string(rune('a'+r.Intn(26))), strings.Repeat("w", r.Intn(41)))
	}
	return mv(node, int64(r.Intn(many+4)), "m"+string(rune('a'+r.Intn(26))))
}

func TestADeedChangesOneNode(t *testing.T) {
	r := rand.New(rand.NewSource(1))
	changed, kept := 0, 0
	for i := range 4000 {
		many := []int{0, 1, 2, 3, 5, 9, 30, impl.MaxOps}[i%8]
		tree, o := anyTree(r, many), anyOp(r, many)
		wantDone(t, "any tree and deed", tree, o, doneByHand(tree, o))
		got := impl.TreeDo(tree, o)
		wantTree(t, "what a deed leaves", got, true)
		for _, n := range append(copied(tree).Nodes, got.Nodes...) {
			was, now := nodeIn(tree, n.Id), nodeIn(got, n.Id)
			if n.Id != o.Node && (was == nil || now == nil || !sameNode(*was, *now)) {
				t.Fatalf("the deed %+v changed the node %d: %v, %v", o, n.Id, was, now)
			}
		}
		if sameTree(tree, got) {
			kept++
		} else {
			changed++
		}
	}
	if changed < 500 || kept < 500 {
		t.Errorf("the deeds of this test are of one kind: %d changed a tree, %d did not", changed, kept)
	}
}

// spoil writes to all that is told, and behind it as far as it may be
// appended to.
func spoil(t impl.Tree) {
	for i := range t.Nodes {
		props := t.Nodes[i].Props
		_ = append(props, make([]impl.Prop, cap(props)-len(props))...)
		for j := range props {
			props[j] = impl.Prop{Key: "spoilt", Value: "spoilt"}
		}
	}
	nodes := t.Nodes
	_ = append(nodes, make([]impl.Node, cap(nodes)-len(nodes))...)
	clear(nodes)
}

func wantTextsApart(t *testing.T, tree impl.Tree, texts []string) {
	t.Helper()
	for _, n := range tree.Nodes {
		told := []string{n.Name}
		for _, p := range n.Props {
			told = append(told, p.Key, p.Value)
		}
		for _, text := range texts {
			for _, piece := range told {
				if sharesMemory(text, piece) {
					t.Fatalf("the text %q shares memory with what was handed in", piece)
				}
			}
		}
	}
}

func textsOf(t impl.Tree) []string {
	var l []string
	for _, n := range t.Nodes {
		l = append(l, n.Name)
		for _, p := range n.Props {
			l = append(l, p.Key, p.Value)
		}
	}
	return l
}

func TestToldTreeIsNewMemory(t *testing.T) {
	right := treeOf(nodeAt(2, 0, "node_two", manyProps(3)...), nodeAt(3, 2, "node_three", manyProps(20)...), nodeAt(4, 3, "node_four"))
	wrong := copied(right)
	wrong.Nodes[2].Parent = 4
	wrong.Nodes[2].Props = make([]impl.Prop, 0, 5)
	for _, tree := range []impl.Tree{right, wrong} {
		for _, o := range []impl.Op{
			mv(3, 0, "moved_node"), mv(9, 3, "new_node"), mv(2, 4, "looping_node"), mv(9, 10, "no_parent"),
			set(2, "new_key", "new_value"), set(2, "kb", "other_value"), set(3, "new_key", "new_value"), set(9, "new_key", "new_value"), {},
		} {
			was := copied(tree)
			got := impl.TreeDo(tree, o)
			wantTextsApart(t, got, append(textsOf(tree), o.Name, o.Value))
			again := impl.TreeDo(tree, o)
			spoil(got)
			if !sameTree(tree, was) {
				t.Fatalf("%+v: who writes to the told tree writes to the one that was handed in", o)
			}
			if !sameTree(impl.TreeDo(tree, o), again) {
				t.Fatalf("%+v: who writes to the told tree writes to what is told next", o)
			}
		}
	}
}

// Two nodes of the tree that is handed in have one list; those of the answer
// have not.
func TestToldListsAreApart(t *testing.T) {
	room := append(manyProps(5), make([]impl.Prop, 10)...)
	tree := treeOf(nodeAt(2, 0, "a", room[:5]...), nodeAt(3, 0, "b", room[:5]...), nodeAt(4, 0, "c"))
	for _, o := range []impl.Op{mv(4, 2, "x"), mv(4, 9, "x"), set(2, "z", "v"), set(4, "z", "v"), {}} {
		want := copied(tree).Nodes[1]
		got := impl.TreeDo(tree, o)
		first := got.Nodes[0].Props
		_ = append(first, impl.Prop{Key: "spoilt"})
		clear(first)
		if !sameNode(got.Nodes[1], want) {
			t.Errorf("%+v: two lists of one answer share memory", o)
		}
		for _, p := range room[5:] {
			if p != (impl.Prop{}) {
				t.Errorf("%+v: what lies behind a list that was handed in is written to", o)
			}
		}
	}
}
