package tests

import (
	"math"
	"strings"
	"testing"

	"loop.example/g00378/impl"
)

func treeOf(nodes ...impl.Node) impl.Tree {
	return impl.Tree{Nodes: nodes}
}

func nodeAt(id, parent int64, name string, props ...impl.Prop) impl.Node {
	return impl.Node{Id: id, Parent: parent, Name: name, Props: props}
}

// manyProps: as many with rising Keys.
func manyProps(many int) []impl.Prop {
	l := []impl.Prop{}
	for i := range many {
		l = append(l, impl.Prop{Key: string([]byte{'k', byte('a' + i)}), Value: strings.Repeat("v", i%41)})
	}
	return l
}

// manyNodes: each below the one that parentOf tells of its place.
func manyNodes(many int, parentOf func(i int) int64) impl.Tree {
	var t impl.Tree
	for i := range many {
		t.Nodes = append(t.Nodes, nodeAt(int64(i+2), parentOf(i), "n"))
	}
	return t
}

func flatTree(many int) impl.Tree {
	return manyNodes(many, func(i int) int64 { return int64(i % 2) })
}

// downChain: each below the one ahead of it, the first below 0.
func downChain(many int) impl.Tree {
	return manyNodes(many, func(i int) int64 {
		if i == 0 {
			return 0
		}
		return int64(i + 1)
	})
}

// upChain: each below the one behind it, the last below 1.
func upChain(many int) impl.Tree {
	return manyNodes(many, func(i int) int64 {
		if i == many-1 {
			return 1
		}
		return int64(i + 3)
	})
}

// ringTree: each below the one behind it, the last below the first.
func ringTree(many int) impl.Tree {
	return manyNodes(many, func(i int) int64 { return int64((i+1)%many + 2) })
}

func wantTree(t *testing.T, what string, tree impl.Tree, want bool) {
	t.Helper()
	if got := impl.TreeRight(tree); got != want {
		t.Errorf("TreeRight of %s: got %v, want %v", what, got, want)
	}
}

func TestHowManyNodes(t *testing.T) {
	wantTree(t, "the zero Tree", impl.Tree{}, true)
	wantTree(t, "an empty list", impl.Tree{Nodes: []impl.Node{}}, true)
	for _, many := range []int{1, 2, 3, impl.MaxOps - 1, impl.MaxOps} {
		wantTree(t, "nodes below root and trash", flatTree(many), true)
		wantTree(t, "a chain down", downChain(many), true)
		wantTree(t, "a chain up", upChain(many), true)
	}
	for _, many := range []int{impl.MaxOps + 1, impl.MaxList, impl.MaxList + 1, 5000} {
		wantTree(t, "too many", flatTree(many), false)
		wantTree(t, "too long a chain", downChain(many), false)
	}
}

func TestIdsRise(t *testing.T) {
	wantTree(t, "rising Ids", treeOf(nodeAt(2, 0, "a"), nodeAt(9, 0, "a"), nodeAt(10, 0, "a")), true)
	wantTree(t, "falling Ids", treeOf(nodeAt(3, 0, "a"), nodeAt(2, 0, "b")), false)
	wantTree(t, "one Id twice", treeOf(nodeAt(2, 0, "a"), nodeAt(2, 0, "a")), false)
	wantTree(t, "one Id twice, two names", treeOf(nodeAt(2, 0, "a"), nodeAt(2, 1, "b")), false)
	wantTree(t, "one Id twice, with others between", treeOf(nodeAt(2, 0, "a"), nodeAt(3, 0, "a"), nodeAt(2, 0, "a")), false)
	for _, at := range []int{1, 2, 75, impl.MaxOps - 1} {
		swapped := flatTree(impl.MaxOps)
		swapped.Nodes[at-1], swapped.Nodes[at] = swapped.Nodes[at], swapped.Nodes[at-1]
		wantTree(t, "two that stand the wrong way", swapped, false)
		twice := flatTree(impl.MaxOps)
		twice.Nodes[at].Id = twice.Nodes[at-1].Id
		wantTree(t, "one Id twice among many", twice, false)
	}
}

func TestNumbersOfNodes(t *testing.T) {
	for _, c := range []numberCase{{math.MinInt64, false}, {-1, false}, {0, false}, {1, false}, {2, true}, {impl.MaxTime, true}, {impl.MaxTime + 1, false}, {math.MaxInt64, false}} {
		wantTree(t, "a node of some Id", treeOf(nodeAt(c.n, 0, "a")), c.want)
		wantTree(t, "a node of some Id in the trash", treeOf(nodeAt(c.n, 1, "a")), c.want)
	}
	wantTree(t, "an Id of 0 among others", treeOf(nodeAt(0, 1, "a"), nodeAt(2, 0, "a")), false)
	wantTree(t, "an Id of 1 among others", treeOf(nodeAt(1, 0, "a"), nodeAt(2, 1, "a")), false)
	wantTree(t, "an Id too great among others", treeOf(nodeAt(2, 0, "a"), nodeAt(impl.MaxTime+1, 2, "a")), false)
}

func TestNamesOfNodes(t *testing.T) {
	names := map[string]bool{
		"": false, "a": true, "a_9": true, "_a": false, "9a": false, "A": false, "a/b": false, "a b": false,
		strings.Repeat("n", 20):              true,
		strings.Repeat("n", 21):              false,
		strings.Repeat("n", impl.MaxBytes+1): false,
	}
	for name, want := range names {
		wantTree(t, "a node of some name", treeOf(nodeAt(2, 0, name)), want)
		wantTree(t, "such a name behind others", treeOf(nodeAt(2, 0, "a"), nodeAt(3, 2, "a"), nodeAt(4, 0, name)), want)
		wantTree(t, "such a Key", treeOf(nodeAt(2, 0, "a", impl.Prop{Key: name})), want)
	}
	wantTree(t, "one name of two below one", treeOf(nodeAt(2, 0, "a"), nodeAt(3, 0, "a")), true)
}

func TestParentsOfNodes(t *testing.T) {
	for _, c := range []numberCase{
		{math.MinInt64, false}, {-1, false}, {0, true}, {1, true}, {2, true}, {3, false}, {4, true}, {5, false},
		{impl.MaxTime, false}, {impl.MaxTime + 1, false}, {math.MaxInt64, false},
	} {
		wantTree(t, "3 below some Parent", treeOf(nodeAt(2, 0, "a"), nodeAt(3, c.n, "b"), nodeAt(4, 1, "c")), c.want)
	}
	wantTree(t, "a Parent's Parent that is none", treeOf(nodeAt(2, 3, "a"), nodeAt(3, 4, "b")), false)
	wantTree(t, "the last Parent of a chain that is none", manyNodes(impl.MaxOps, func(i int) int64 { return int64(i + 3) }), false)
}

func TestRings(t *testing.T) {
	for _, many := range []int{1, 2, 3, 4, 10, impl.MaxOps - 1, impl.MaxOps} {
		wantTree(t, "a ring", ringTree(many), false)
	}
	for _, many := range []int{1, 2, 3, 50} {
		tail := ringTree(many)
		tail.Nodes = append(tail.Nodes, nodeAt(100, 2, "tail"), nodeAt(101, 100, "tail"))
		wantTree(t, "a ring with a tail", tail, false)
		beside := ringTree(many)
		beside.Nodes = append(beside.Nodes, nodeAt(100, 0, "a"), nodeAt(101, 100, "a"), nodeAt(102, 1, "a"))
		wantTree(t, "a ring beside what is right", beside, false)
	}
	wantTree(t, "two rings", treeOf(nodeAt(2, 3, "a"), nodeAt(3, 2, "a"), nodeAt(4, 5, "a"), nodeAt(5, 4, "a")), false)
	wantTree(t, "a ring behind what is right", treeOf(nodeAt(2, 0, "a"), nodeAt(3, 2, "a"), nodeAt(4, 4, "a")), false)
}

func TestPropsOfNodes(t *testing.T) {
	p := func(key, value string) impl.Prop { return impl.Prop{Key: key, Value: value} }
	long := manyProps(20)
	long[7].Value = strings.Repeat("v", 41)
	turned := manyProps(20)
	turned[18], turned[19] = turned[19], turned[18]
	for _, c := range []struct {
		what  string
		props []impl.Prop
		want  bool
	}{
		{"an empty list", []impl.Prop{}, true},
		{"one", []impl.Prop{p("k", "v")}, true},
		{"an empty Value", []impl.Prop{p("k", "")}, true},
		{"rising Keys, one the other's beginning", []impl.Prop{p("a", ""), p("a0", ""), p("a_", ""), p("aa", ""), p("b", "")}, true},
		{"falling Keys", []impl.Prop{p("b", "v"), p("a", "v")}, false},
		{"falling Keys, one the other's beginning", []impl.Prop{p("ab", "v"), p("a", "v")}, false},
		{"one Key twice", []impl.Prop{p("a", "v"), p("a", "v")}, false},
		{"one Key twice, two Values", []impl.Prop{p("a", "v"), p("a", "w")}, false},
		{"no Key", []impl.Prop{p("", "v")}, false},
		{"a Key that is no name behind one", []impl.Prop{p("a", "v"), p("a-", "v")}, false},
		{"19", manyProps(19), true},
		{"20", manyProps(20), true},
		{"21", manyProps(21), false},
		{"a Value of 40 bytes", []impl.Prop{p("k", strings.Repeat("\xff", 40))}, true},
		{"a Value of 41 bytes", []impl.Prop{p("k", strings.Repeat("v", 41))}, false},
		{"a great Value", []impl.Prop{p("k", strings.Repeat("v", impl.MaxBytes+1))}, false},
		{"a Value of 41 bytes among others", long, false},
		{"the last two the wrong way", turned, false},
	} {
		wantTree(t, "Props: "+c.what, treeOf(nodeAt(2, 0, "a", c.props...)), c.want)
		among := treeOf(nodeAt(2, 0, "a", manyProps(3)...), nodeAt(3, 2, "b", c.props...), nodeAt(4, 2, "c"))
		wantTree(t, "Props among others': "+c.what, among, c.want)
	}
	full := flatTree(impl.MaxOps)
	for i := range full.Nodes {
		full.Nodes[i].Props = manyProps(20)
	}
	wantTree(t, "MaxOps of 20 Props", full, true)
	full.Nodes[impl.MaxOps-1].Props = manyProps(21)
	wantTree(t, "MaxOps of 20 Props, the last of 21", full, false)
}
