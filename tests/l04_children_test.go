package tests

import (
	"math"
	"math/rand"
	"slices"
	"strings"
	"testing"

	"loop.example/g00378/impl"
)

// strangeNumbers are no node's in the trees of these tests, and neither 0 nor 1.
func strangeNumbers() []int64 {
	return []int64{math.MinInt64, -2, -1, 900, impl.MaxTime, impl.MaxTime + 1, math.MaxInt64}
}

// twinTree: right, with few Names, so that several nodes have one path.
func twinTree(r *rand.Rand, many int) impl.Tree {
	names := []string{"a", "a0", "a_", "aa", "b"}
	t := anyTree(r, many)
	for i := range t.Nodes {
		t.Nodes[i].Name = names[r.Intn(len(names))]
	}
	return t
}

// askedTrees: right ones of many forms.
func askedTrees() []impl.Tree {
	l := []impl.Tree{{}, smallTree(), flatTree(impl.MaxOps), downChain(impl.MaxOps), upChain(impl.MaxOps)}
	r := rand.New(rand.NewSource(4))
	for i := range 80 {
		l = append(l, twinTree(r, []int{1, 2, 3, 5, 9, 30, 80, impl.MaxOps}[i%8]))
	}
	return l
}

// wrongTrees: in each the first three nodes would be right without the others.
func wrongTrees() map[string]impl.Tree {
	with := func(more ...impl.Node) impl.Tree {
		k := impl.Prop{Key: "k", Value: "v"}
		return treeOf(append([]impl.Node{nodeAt(2, 0, "a", k), nodeAt(3, 2, "b", k), nodeAt(4, 1, "c", k)}, more...)...)
	}
	many := with()
	for id := int64(5); len(many.Nodes) <= impl.MaxOps; id++ {
		many.Nodes = append(many.Nodes, nodeAt(id, 0, "n"))
	}
	turned := with()
	slices.Reverse(turned.Nodes)
	return map[string]impl.Tree{
		"one node too many":      many,
		"falling Ids":            turned,
		"one Id twice":           with(nodeAt(4, 1, "c")),
		"too great an Id":        with(nodeAt(impl.MaxTime+1, 0, "d")),
		"a Parent that is none":  with(nodeAt(5, 9, "d")),
		"a Parent below 0":       with(nodeAt(5, -1, "d")),
		"a ring of one":          with(nodeAt(5, 5, "d")),
		"a ring of two":          with(nodeAt(5, 6, "d"), nodeAt(6, 5, "e")),
		"a ring with a tail":     with(nodeAt(5, 6, "d"), nodeAt(6, 6, "e")),
		"the empty name":         with(nodeAt(5, 0, "")),
		"a name of 21 bytes":     with(nodeAt(5, 0, strings.Repeat("n", 21))),
		"a name with a slash":    with(nodeAt(5, 2, "b/d")),
		"21 Props":               with(nodeAt(5, 0, "d", manyProps(21)...)),
		"a Key that is no name":  with(nodeAt(5, 0, "d", impl.Prop{Key: "K", Value: "v"})),
		"a Value of 41 bytes":    with(nodeAt(5, 0, "d", impl.Prop{Key: "k", Value: strings.Repeat("v", 41)})),
		"one Key twice":          with(nodeAt(5, 0, "d", impl.Prop{Key: "k"}, impl.Prop{Key: "k"})),
		"nothing but a ring":     ringTree(3),
		"a ring of MaxOps":       ringTree(impl.MaxOps),
		"a node of the number 0": treeOf(nodeAt(0, 1, "a"), nodeAt(2, 0, "b")),
		"a node of the number 1": treeOf(nodeAt(1, 0, "a"), nodeAt(2, 1, "b")),
		"the zero Node":          treeOf(impl.Node{}),
	}
}

func TestTheTreesOfTheseTests(t *testing.T) {
	for _, tree := range askedTrees() {
		wantTree(t, "a tree that is asked", tree, true)
	}
	for what, tree := range wrongTrees() {
		wantTree(t, what, tree, false)
	}
}

// childrenByHand leans on the order of Ids that a right Tree has.
func childrenByHand(t impl.Tree, node int64) []int64 {
	var l []impl.Node
	for _, n := range t.Nodes {
		if n.Parent == node {
			l = append(l, n)
		}
	}
	slices.SortStableFunc(l, func(a, b impl.Node) int { return strings.Compare(a.Name, b.Name) })
	var ids []int64
	for _, n := range l {
		ids = append(ids, n.Id)
	}
	return ids
}

func wantChildren(t *testing.T, what string, tree impl.Tree, node int64, want ...int64) {
	t.Helper()
	was := copied(tree)
	if got := impl.Children(tree, node); !slices.Equal(got, want) {
		t.Errorf("Children of %d, %s: got %v, want %v", node, what, got, want)
	}
	if !sameTree(tree, was) {
		t.Errorf("Children of %d, %s: the tree that is handed in is not as it was", node, what)
	}
}

func TestChildrenInSmallTree(t *testing.T) {
	for node, want := range map[int64][]int64{
		0: {2}, 1: {6, 9}, 2: {3, 7}, 3: {5}, 4: {}, 5: {4}, 6: {}, 7: {}, 8: {}, 9: {8},
	} {
		wantChildren(t, "the small tree", smallTree(), node, want...)
	}
}

func TestChildrenOfNoNode(t *testing.T) {
	for _, n := range strangeNumbers() {
		wantChildren(t, "a number that is none", smallTree(), n)
		wantChildren(t, "the zero Tree", impl.Tree{}, n)
	}
	wantChildren(t, "the zero Tree", impl.Tree{}, 0)
	wantChildren(t, "the zero Tree", impl.Tree{}, 1)
	wantChildren(t, "the zero Tree", impl.Tree{}, 2)
}

func TestOrderOfChildren(t *testing.T) {
	for _, parent := range []int64{0, 1, 40} {
		tree := treeOf(nodeAt(2, parent, "b"), nodeAt(3, parent, "a"), nodeAt(4, parent, "b"), nodeAt(5, parent, "a"),
			nodeAt(6, parent, "b"), nodeAt(40, 0, "a"), nodeAt(41, 40, "z"))
		want := []int64{3, 5, 2, 4, 6}
		switch parent {
		case 0:
			want = []int64{3, 5, 40, 2, 4, 6}
		case 40:
			want = append(want, 41)
		}
		wantChildren(t, "several of one Name", tree, parent, want...)
	}
	// By their bytes: digits, then `_`, then letters; the shorter one first.
	names := []string{"a", "a0", "a00", "a01", "a1", "a_", "a__", "a_a", "aa", "aaa", "ab", "az", "b", "b0", "z"}
	var up, down impl.Tree
	var rise, fall []int64
	for i, name := range names {
		id := int64(i + 2)
		up.Nodes = append(up.Nodes, nodeAt(id, 0, name))
		down.Nodes = append(down.Nodes, nodeAt(id, 1, names[len(names)-1-i]))
		rise = append(rise, id)
		fall = append([]int64{id}, fall...)
	}
	wantChildren(t, "Names of which one begins another", up, 0, rise...)
	wantChildren(t, "such Names against their Ids", down, 1, fall...)
}

func TestChildrenInManyTrees(t *testing.T) {
	for _, tree := range askedTrees() {
		for node := int64(-1); node < impl.MaxOps+4; node++ {
			wantChildren(t, "by hand", tree, node, childrenByHand(tree, node)...)
		}
	}
}

func TestChildrenInWrongTrees(t *testing.T) {
	for what, tree := range wrongTrees() {
		for node := int64(-1); node < 8; node++ {
			wantChildren(t, what, tree, node)
		}
	}
}

func TestToldChildrenAreNewMemory(t *testing.T) {
	for _, tree := range []impl.Tree{smallTree(), flatTree(impl.MaxOps)} {
		for node := range int64(3) {
			was := copied(tree)
			want := childrenByHand(tree, node)
			got := impl.Children(tree, node)
			_ = append(got, make([]int64, cap(got)-len(got))...)
			clear(got)
			if !sameTree(tree, was) {
				t.Errorf("Children of %d: who writes to what is told writes to the tree", node)
			}
			wantChildren(t, "once more", tree, node, want...)
		}
	}
}
