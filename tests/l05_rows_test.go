package tests

import (
	"fmt"
	"math"
	"math/rand"
	"slices"
	"strings"
	"testing"

	"loop.example/g00378/impl"
)

// allKinds: each Kind, and ahead of and behind them some that are none.
func allKinds() []int64 {
	return []int64{math.MinInt64, -1, 0, impl.AskChildren, impl.AskPath, impl.AskUnder, impl.AskProps, 5, 6, 257, math.MaxInt64}
}

// rowsByHand tells of a right tree what chapter 6 says, without any of the
// program's functions.
func rowsByHand(t impl.Tree, q impl.Query) []impl.Row {
	n := nodeIn(t, q.Node)
	top := q.Node == 0 || q.Node == 1
	var l []impl.Row
	switch {
	case q.Kind == impl.AskChildren && (n != nil || top):
		for _, id := range childrenByHand(t, q.Node) {
			l = append(l, impl.Row{Key: fmt.Sprintf("%06d", id), Value: nodeIn(t, id).Name})
		}
	case q.Kind == impl.AskPath && n != nil:
		l = rowsOf("path", pathByHand(t, q.Node))
	case q.Kind == impl.AskUnder && (n != nil || top):
		l = rowsOf("under", fmt.Sprint(underByHand(t, q.Node)))
	case q.Kind == impl.AskProps && n != nil:
		for _, p := range n.Props {
			l = append(l, impl.Row{Key: p.Key, Value: p.Value})
		}
	}
	slices.SortFunc(l, func(a, b impl.Row) int { return strings.Compare(a.Key, b.Key) })
	return l
}

func wantRowsOf(t *testing.T, what string, tree impl.Tree, kind int64, node int64, want ...impl.Row) {
	t.Helper()
	was := copied(tree)
	if got := impl.Rows(tree, impl.Query{Kind: kind, Node: node}); !slices.Equal(got, want) {
		t.Errorf("Rows of the Kind %d and %d, %s: got %v, want %v", kind, node, what, got, want)
	}
	if !sameTree(tree, was) {
		t.Errorf("Rows of the Kind %d and %d, %s: the tree that is handed in is not as it was", kind, node, what)
	}
}

func propTree() impl.Tree {
	tree := smallTree()
	tree.Nodes[0].Props = []impl.Prop{{Key: "color", Value: "red and blue"}, {Key: "k"}, {Key: "k0", Value: "\xff\x00"}}
	tree.Nodes[6].Props = []impl.Prop{{Key: "path", Value: "of eight"}}
	return tree
}

func TestRowsOfChildren(t *testing.T) {
	for node, want := range map[int64][]impl.Row{
		0: rowsOf("000002", "a"), 1: rowsOf("000006", "e", "000009", "h"), 2: rowsOf("000003", "b", "000007", "f"),
		3: rowsOf("000005", "d"), 4: nil, 5: rowsOf("000004", "c"), 6: nil, 7: nil, 8: nil, 9: rowsOf("000008", "g"),
	} {
		wantRowsOf(t, "the small tree", propTree(), impl.AskChildren, node, want...)
	}
	wantRowsOf(t, "the zero Tree", impl.Tree{}, impl.AskChildren, 0)
	wantRowsOf(t, "the zero Tree", impl.Tree{}, impl.AskChildren, 1)
}

func TestRowsOfPaths(t *testing.T) {
	for node, want := range map[int64]string{
		2: "/a", 3: "/a/b", 4: "/a/b/d/c", 5: "/a/b/d", 6: "~/e", 7: "/a/f", 8: "~/h/g", 9: "~/h",
	} {
		wantRowsOf(t, "the small tree", propTree(), impl.AskPath, node, rowsOf("path", want)...)
	}
}

func TestRowsOfUnder(t *testing.T) {
	for node, want := range map[int64]string{0: "5", 1: "3", 2: "4", 3: "2", 4: "0", 5: "1", 6: "0", 7: "0", 8: "0", 9: "1"} {
		wantRowsOf(t, "the small tree", propTree(), impl.AskUnder, node, rowsOf("under", want)...)
	}
	wantRowsOf(t, "the zero Tree", impl.Tree{}, impl.AskUnder, 0, rowsOf("under", "0")...)
	wantRowsOf(t, "the zero Tree", impl.Tree{}, impl.AskUnder, 1, rowsOf("under", "0")...)
	for _, most := range []int{9, 10, 99, 100, impl.MaxOps} {
		wantRowsOf(t, "several digits", downChain(most), impl.AskUnder, 0, rowsOf("under", fmt.Sprint(most))...)
	}
}

func TestRowsOfProps(t *testing.T) {
	wantRowsOf(t, "three", propTree(), impl.AskProps, 2, rowsOf("color", "red and blue", "k", "", "k0", "\xff\x00")...)
	wantRowsOf(t, "a Key that is another Kind's", propTree(), impl.AskProps, 8, rowsOf("path", "of eight")...)
	for _, node := range []int64{3, 4, 5, 6, 7, 9} {
		wantRowsOf(t, "a node without Props", propTree(), impl.AskProps, node)
	}
	tree := treeOf(nodeAt(2, 0, "a", manyProps(20)...))
	wantRowsOf(t, "twenty", tree, impl.AskProps, 2, rowsByHand(tree, impl.Query{Kind: impl.AskProps, Node: 2})...)
}

// The root and the trash have neither a path nor Props.
func TestRowsOfRootAndTrash(t *testing.T) {
	for _, tree := range append(askedTrees(), propTree()) {
		for _, kind := range []int64{impl.AskPath, impl.AskProps} {
			wantRowsOf(t, "the root", tree, kind, 0)
			wantRowsOf(t, "the trash", tree, kind, 1)
		}
		for _, kind := range []int64{impl.AskChildren, impl.AskUnder} {
			wantRowsOf(t, "the root", tree, kind, 0, rowsByHand(tree, impl.Query{Kind: kind, Node: 0})...)
			wantRowsOf(t, "the trash", tree, kind, 1, rowsByHand(tree, impl.Query{Kind: kind, Node: 1})...)
		}
	}
}

func TestRowsOfNoNode(t *testing.T) {
	for _, kind := range allKinds() {
		for _, node := range append(strangeNumbers(), 10, 12) {
			wantRowsOf(t, "a number that is none", propTree(), kind, node)
			wantRowsOf(t, "the zero Tree", impl.Tree{}, kind, node)
		}
		wantRowsOf(t, "the zero Tree", impl.Tree{}, kind, 2)
	}
}

func TestRowsOfNoKind(t *testing.T) {
	for _, kind := range allKinds() {
		if impl.AskChildren <= kind && kind <= impl.AskProps {
			continue
		}
		for node := int64(-1); node < 11; node++ {
			wantRowsOf(t, "a Kind that is none", propTree(), kind, node)
		}
	}
}

func TestDigitsOfChildren(t *testing.T) {
	for _, parent := range []int64{0, 1, 50} {
		tree := treeOf(nodeAt(2, parent, "z"), nodeAt(9, parent, "y"), nodeAt(10, parent, "x"), nodeAt(50, 0, "w"), nodeAt(51, 50, "w"), nodeAt(99, parent, "v"),
			nodeAt(100, parent, "u"), nodeAt(9999, parent, "t"), nodeAt(10000, parent, "s"), nodeAt(99999, parent, "r"), nodeAt(100000, parent, "q"),
			nodeAt(100001, parent, "p"), nodeAt(999999, parent, "o"), nodeAt(impl.MaxTime, parent, "n"))
		// Seven digits stand behind the six that begin them, ahead of 100001.
		want := rowsOf("000002", "z", "000009", "y", "000010", "x", "000050", "w", "000051", "w", "000099", "v", "000100", "u", "009999", "t", "010000", "s",
			"099999", "r", "100000", "q", "1000000", "n", "100001", "p", "999999", "o")
		want = slices.DeleteFunc(want, func(r impl.Row) bool {
			return r.Key == "000050" && parent != 0 || r.Key == "000051" && parent != 50
		})
		wantRowsOf(t, "numbers of one to seven digits", tree, impl.AskChildren, parent, want...)
		wantRows(t, "numbers of one to seven digits", impl.Rows(tree, impl.Query{Kind: impl.AskChildren, Node: parent}), true)
	}
	alone := treeOf(nodeAt(impl.MaxTime, 1, "n"))
	wantRowsOf(t, "seven digits", alone, impl.AskChildren, 1, rowsOf("1000000", "n")...)
	wantRowsOf(t, "seven digits", alone, impl.AskPath, impl.MaxTime, rowsOf("path", "~/n")...)
}

func TestRowsOfManyTrees(t *testing.T) {
	told := map[int64]int{}
	for _, tree := range askedTrees() {
		for kind := int64(impl.AskChildren); kind <= impl.AskProps; kind++ {
			for node := int64(-1); node < int64(len(tree.Nodes))+4; node++ {
				want := rowsByHand(tree, impl.Query{Kind: kind, Node: node})
				wantRowsOf(t, "by hand", tree, kind, node, want...)
				wantRows(t, "what is told", want, true)
				told[kind] += len(want)
			}
		}
	}
	for kind := int64(impl.AskChildren); kind <= impl.AskProps; kind++ {
		if told[kind] < 1000 {
			t.Errorf("the trees of this test have few rows of the Kind %d: %d", kind, told[kind])
		}
	}
}

func TestRowsAtMaxOps(t *testing.T) {
	all := manyNodes(impl.MaxOps, func(int) int64 { return 1 })
	got := impl.Rows(all, impl.Query{Kind: impl.AskChildren, Node: 1})
	if len(got) != impl.MaxOps || got[0].Key != "000002" || got[impl.MaxOps-1].Key != "000151" {
		t.Errorf("MaxOps children: got %d rows", len(got))
	}
	wantRows(t, "MaxOps children", got, true)
}

func TestRowsOfWrongTrees(t *testing.T) {
	for what, tree := range wrongTrees() {
		for _, kind := range allKinds() {
			for node := int64(-1); node < 8; node++ {
				wantRowsOf(t, what, tree, kind, node)
			}
		}
	}
}

func TestToldRowsAreNewMemory(t *testing.T) {
	tree := treeOf(nodeAt(2, 0, "node_two", impl.Prop{Key: "key_one", Value: "value_one"}, impl.Prop{Key: "key_two", Value: "v"}),
		nodeAt(3, 2, "node_three", manyProps(20)...), nodeAt(4, 2, "node_four"), nodeAt(100000, 2, "node_five"))
	for kind := int64(impl.AskChildren); kind <= impl.AskProps; kind++ {
		for _, node := range []int64{0, 2, 3, 4} {
			was, want := copied(tree), rowsByHand(tree, impl.Query{Kind: kind, Node: node})
			got := impl.Rows(tree, impl.Query{Kind: kind, Node: node})
			wantRowTextsApart(t, got, textsOf(tree))
			spoilRows(got)
			if !sameTree(tree, was) {
				t.Errorf("Rows of the Kind %d and %d: who writes to what is told writes to the tree", kind, node)
			}
			wantRowsOf(t, "once more", tree, kind, node, want...)
		}
	}
}

// spoilRows writes to all that is told, and behind it as far as it may be
// appended to.
func spoilRows(l []impl.Row) {
	_ = append(l, slices.Repeat(rowsOf("spoilt", "spoilt"), cap(l)-len(l))...)
	for i := range l {
		l[i] = impl.Row{Key: "spoilt", Value: "spoilt"}
	}
}

func textsOfRows(l []impl.Row) []string {
	var texts []string
	for _, r := range l {
		texts = append(texts, r.Key, r.Value)
	}
	return texts
}

func wantRowTextsApart(t *testing.T, l []impl.Row, texts []string) {
	t.Helper()
	for _, told := range textsOfRows(l) {
		for _, text := range texts {
			if sharesMemory(text, told) {
				t.Fatalf("the text %q shares memory with what was handed in", told)
			}
		}
	}
}

// anyDeedTree: in some of them one node's number has seven digits.
func anyDeedTree(r *rand.Rand, many int) impl.Tree {
	t := twinTree(r, many)
	if many > 0 && r.Intn(3) == 0 {
		last := &t.Nodes[many-1]
		for i := range t.Nodes {
			if t.Nodes[i].Parent == last.Id {
				t.Nodes[i].Parent = 0
			}
		}
		last.Id = impl.MaxTime
	}
	return t
}
