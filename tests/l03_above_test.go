package tests

import (
	"math"
	"testing"

	"loop.example/g00378/impl"
)

func wantAbove(t *testing.T, what string, tree impl.Tree, node, other int64, want bool) {
	t.Helper()
	if got := impl.Above(tree, node, other); got != want {
		t.Errorf("Above of %s, %d and %d: got %v, want %v", what, node, other, got, want)
	}
}

// Below 0: 2, and below it 3 and 7, below 3 5, below 5 4. Below 1: 6 and 9,
// below 9 8.
func smallTree() impl.Tree {
	return treeOf(nodeAt(2, 0, "a"), nodeAt(3, 2, "b"), nodeAt(4, 5, "c"), nodeAt(5, 3, "d"),
		nodeAt(6, 1, "e"), nodeAt(7, 2, "f"), nodeAt(8, 9, "g"), nodeAt(9, 1, "h"))
}

func TestAboveInSmallTree(t *testing.T) {
	come := map[int64][]int64{
		2: {2, 0}, 3: {3, 2, 0}, 4: {4, 5, 3, 2, 0}, 5: {5, 3, 2, 0},
		6: {6, 1}, 7: {7, 2, 0}, 8: {8, 9, 1}, 9: {9, 1},
	}
	for node := int64(-2); node < 13; node++ {
		for other := int64(-2); other < 13; other++ {
			want := false
			for _, n := range come[node] {
				want = want || n == other
			}
			wantAbove(t, "the small tree", smallTree(), node, other, want)
		}
	}
}

func TestAboveOfNoNode(t *testing.T) {
	for _, n := range []int64{math.MinInt64, -1, 0, 1, 10, impl.MaxTime, impl.MaxTime + 1, math.MaxInt64} {
		for _, tree := range []impl.Tree{{}, smallTree()} {
			wantAbove(t, "a tree without it", tree, n, n, false)
			wantAbove(t, "a tree without it", tree, n, 0, false)
			wantAbove(t, "a tree without it", tree, n, 1, false)
			wantAbove(t, "a tree without it", tree, n, 2, false)
		}
		wantAbove(t, "a tree without the other", smallTree(), 4, n, n == 0)
		wantAbove(t, "a tree without the other", smallTree(), 8, n, n == 1)
	}
}

func TestAboveInLongChains(t *testing.T) {
	const last = impl.MaxOps + 1
	for node := int64(2); node <= last; node++ {
		wantAbove(t, "a chain down", downChain(impl.MaxOps), node, 0, true)
		wantAbove(t, "a chain down", downChain(impl.MaxOps), node, 1, false)
		wantAbove(t, "a chain down", downChain(impl.MaxOps), last, node, true)
		wantAbove(t, "a chain down", downChain(impl.MaxOps), 2, node, node == 2)
		wantAbove(t, "a chain up", upChain(impl.MaxOps), node, 1, true)
		wantAbove(t, "a chain up", upChain(impl.MaxOps), node, 0, false)
		wantAbove(t, "a chain up", upChain(impl.MaxOps), 2, node, true)
		wantAbove(t, "a chain up", upChain(impl.MaxOps), last, node, node == last)
	}
}

func TestAboveInWrongTrees(t *testing.T) {
	wrong := map[string]impl.Tree{
		"a ring of one":                ringTree(1),
		"a ring of two":                ringTree(2),
		"a ring of MaxOps":             ringTree(impl.MaxOps),
		"a chain of one too many":      downChain(impl.MaxOps + 1),
		"a name that is none":          treeOf(nodeAt(2, 0, "a"), nodeAt(3, 2, "")),
		"a wrong node behind the two":  treeOf(nodeAt(2, 0, "a"), nodeAt(3, 2, "b"), nodeAt(4, 9, "c")),
		"falling Ids":                  treeOf(nodeAt(3, 2, "b"), nodeAt(2, 0, "a")),
		"a Key that is none":           treeOf(nodeAt(2, 0, "a", impl.Prop{Key: "K"}), nodeAt(3, 2, "b")),
		"a node of the number 1":       treeOf(nodeAt(1, 0, "a"), nodeAt(2, 1, "b"), nodeAt(3, 2, "c")),
		"a node of too great a number": treeOf(nodeAt(2, 0, "a"), nodeAt(3, 2, "b"), nodeAt(impl.MaxTime+1, 0, "c")),
	}
	for what, tree := range wrong {
		for node := int64(-1); node < 5; node++ {
			for other := int64(-1); other < 5; other++ {
				wantAbove(t, what, tree, node, other, false)
			}
		}
	}
}
