package tests

import (
	"math/rand"
	"slices"
	"strings"
	"testing"

	"loop.example/g00378/impl"
)

func wantTreeOf(t *testing.T, what string, log []impl.Op, want impl.Tree) {
	t.Helper()
	was := slices.Clone(log)
	got := impl.TreeOf(log)
	if !sameTree(got, want) {
		t.Errorf("TreeOf %s: %s", what, apart(got, want))
	}
	if !slices.Equal(log, was) {
		t.Errorf("TreeOf %s: the log that is handed in is not as it was", what)
	}
	wantTree(t, "TreeOf "+what, got, true)
}

// stamped gives deeds rising stamps, several replicas of one time.
func stamped(l ...impl.Op) []impl.Op {
	for i := range l {
		l[i].Time, l[i].Replica = int64(i/3+1), int64(i%3+1)
	}
	return l
}

// wantOneByOne: the tree of each first part of the log is that of its deeds
// done one by one, by the program and by hand.
func wantOneByOne(t *testing.T, what string, log []impl.Op) {
	t.Helper()
	var tree, byHand impl.Tree
	wantTreeOf(t, "no deeds", log[:0], tree)
	for i, o := range log {
		tree, byHand = impl.TreeDo(tree, o), doneByHand(byHand, o)
		wantTreeOf(t, what, log[:i+1], tree)
		wantTreeOf(t, what+", by hand", log[:i+1], byHand)
	}
}

func TestTreeOfSmallLogs(t *testing.T) {
	wantTreeOf(t, "none", nil, impl.Tree{})
	wantTreeOf(t, "the empty log", []impl.Op{}, impl.Tree{})
	wantTreeOf(t, "one move", stamped(mv(2, 0, "a")), treeOf(nodeAt(2, 0, "a")))
	wantTreeOf(t, "two", stamped(mv(3, 0, "a"), mv(2, 3, "b")), treeOf(nodeAt(2, 3, "b"), nodeAt(3, 0, "a")))
	wantTreeOf(t, "moves and sets",
		stamped(mv(2, 0, "a"), set(2, "k", "1"), set(2, "j", "2"), mv(3, 2, "b"), set(2, "k", "3"), mv(2, 1, "c")),
		treeOf(nodeAt(2, 1, "c", impl.Prop{Key: "j", Value: "2"}, impl.Prop{Key: "k", Value: "3"}), nodeAt(3, 2, "b")))
}

func TestTreeOfDeedsThatChangeNothing(t *testing.T) {
	wantTreeOf(t, "a set of no node", stamped(set(2, "k", "v")), impl.Tree{})
	wantTreeOf(t, "a move below none", stamped(mv(2, 3, "a")), impl.Tree{})
	wantTreeOf(t, "a move below itself", stamped(mv(2, 2, "a")), impl.Tree{})
	wantTreeOf(t, "a set ahead of the move", stamped(set(2, "k", "v"), mv(2, 0, "a")), treeOf(nodeAt(2, 0, "a")))
	wantTreeOf(t, "a move ahead of its Parent", stamped(mv(3, 2, "b"), mv(2, 0, "a")), treeOf(nodeAt(2, 0, "a")))
	wantTreeOf(t, "each below the other", stamped(mv(2, 0, "a"), mv(3, 0, "b"), mv(2, 3, "c"), mv(3, 2, "d")),
		treeOf(nodeAt(2, 3, "c"), nodeAt(3, 0, "b")))
	wantTreeOf(t, "a ring of three", stamped(mv(2, 0, "a"), mv(3, 2, "b"), mv(4, 3, "c"), mv(2, 4, "d"), mv(4, 4, "e")),
		treeOf(nodeAt(2, 0, "a"), nodeAt(3, 2, "b"), nodeAt(4, 3, "c")))
	sets := []impl.Op{mv(2, 0, "a")}
	for _, p := range manyProps(23) {
		sets = append(sets, set(2, p.Key, p.Value))
	}
	wantTreeOf(t, "23 Keys", stamped(sets...), treeOf(nodeAt(2, 0, "a", manyProps(20)...)))
}

func TestTreeOfMaxOps(t *testing.T) {
	for what, tree := range map[string]impl.Tree{"a flat one": flatTree(impl.MaxOps), "a chain": downChain(impl.MaxOps)} {
		var log []impl.Op
		for _, n := range tree.Nodes {
			log = append(log, mv(n.Id, n.Parent, n.Name))
		}
		wantTreeOf(t, what, stamped(log...), tree)
	}
	wantOneByOne(t, "MaxOps of both kinds", manyOps(impl.MaxOps))
}

func TestTreeOfNoLog(t *testing.T) {
	a, b := moveOp(1, 1, 2, 0, "a"), moveOp(1, 2, 3, 0, "b")
	wantTreeOf(t, "falling stamps", []impl.Op{b, a}, impl.Tree{})
	wantTreeOf(t, "falling times", []impl.Op{moveOp(2, 1, 2, 0, "a"), b}, impl.Tree{})
	wantTreeOf(t, "one deed twice", []impl.Op{a, a}, impl.Tree{})
	wantTreeOf(t, "two of one stamp", []impl.Op{a, moveOp(1, 1, 3, 0, "b")}, impl.Tree{})
	wantTreeOf(t, "a wrong deed", []impl.Op{{}}, impl.Tree{})
	wantTreeOf(t, "a wrong deed behind others", []impl.Op{a, b, moveOp(2, 1, 4, 0, "C")}, impl.Tree{})
	wantTreeOf(t, "a great Value", []impl.Op{a, setOp(2, 1, 2, "k", strings.Repeat("v", 41))}, impl.Tree{})
	for _, many := range []int{impl.MaxOps + 1, impl.MaxList, impl.MaxList + 1, 2000} {
		var moves []impl.Op
		for i := range many {
			moves = append(moves, mv(int64(i+2), 0, "a"))
		}
		wantTreeOf(t, "too many", stamped(moves...), impl.Tree{})
	}
}

func TestTreeOfAnyLog(t *testing.T) {
	r := rand.New(rand.NewSource(2))
	for range 60 {
		var log []impl.Op
		nodes := 1 + r.Intn(40)
		for range 1 + r.Intn(impl.MaxOps) {
			log = append(log, anyOp(r, nodes))
		}
		wantOneByOne(t, "any log", stamped(log...))
	}
}

func TestTreeOfIsNewMemory(t *testing.T) {
	log := stamped(mv(2, 0, "node_two"), mv(3, 2, "node_three"), set(2, "key_one", "value_one"), set(2, "key_two", "value_two"), set(3, "key_one", "value_one"))
	var texts []string
	for _, o := range log {
		texts = append(texts, o.Name, o.Value)
	}
	want := impl.TreeOf(log)
	wantTextsApart(t, want, texts)
	spoil(impl.TreeOf(log))
	wantTreeOf(t, "once more", log, want)
}
