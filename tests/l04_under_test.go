package tests

import (
	"testing"

	"loop.example/g00378/impl"
)

func underByHand(t impl.Tree, node int64) int64 {
	many := int64(0)
	for _, n := range t.Nodes {
		for at := &n; at != nil; at = nodeIn(t, at.Parent) {
			if at.Parent == node {
				many++
			}
		}
	}
	return many
}

func wantUnder(t *testing.T, what string, tree impl.Tree, node int64, want int64) {
	t.Helper()
	was := copied(tree)
	if got := impl.Under(tree, node); got != want {
		t.Errorf("Under %d, %s: got %d, want %d", node, what, got, want)
	}
	if !sameTree(tree, was) {
		t.Errorf("Under %d, %s: the tree that is handed in is not as it was", node, what)
	}
}

func TestUnderInSmallTree(t *testing.T) {
	for node, want := range map[int64]int64{0: 5, 1: 3, 2: 4, 3: 2, 4: 0, 5: 1, 6: 0, 7: 0, 8: 0, 9: 1} {
		wantUnder(t, "the small tree", smallTree(), node, want)
	}
}

func TestUnderOfNoNode(t *testing.T) {
	for _, n := range strangeNumbers() {
		wantUnder(t, "a number that is none", smallTree(), n, 0)
		wantUnder(t, "the zero Tree", impl.Tree{}, n, 0)
	}
	wantUnder(t, "the zero Tree", impl.Tree{}, 0, 0)
	wantUnder(t, "the zero Tree", impl.Tree{}, 1, 0)
}

func TestUnderAtMaxOps(t *testing.T) {
	for i := range int64(impl.MaxOps) {
		wantUnder(t, "a chain down", downChain(impl.MaxOps), i+2, impl.MaxOps-1-i)
		wantUnder(t, "a chain up", upChain(impl.MaxOps), i+2, i)
		wantUnder(t, "a flat tree", flatTree(impl.MaxOps), i+2, 0)
	}
	wantUnder(t, "a chain down", downChain(impl.MaxOps), 0, impl.MaxOps)
	wantUnder(t, "a chain down", downChain(impl.MaxOps), 1, 0)
	wantUnder(t, "a chain up", upChain(impl.MaxOps), 0, 0)
	wantUnder(t, "a chain up", upChain(impl.MaxOps), 1, impl.MaxOps)
	wantUnder(t, "a flat tree", flatTree(impl.MaxOps), 0, impl.MaxOps/2)
}

// Below the root and the trash together lie all nodes.
func TestAllNodesLieBelowRootAndTrash(t *testing.T) {
	for _, tree := range askedTrees() {
		if got := impl.Under(tree, 0) + impl.Under(tree, 1); got != int64(len(tree.Nodes)) {
			t.Errorf("below 0 and 1 lie %d nodes, of %d", got, len(tree.Nodes))
		}
		for node := int64(-1); node < impl.MaxOps+4; node++ {
			wantUnder(t, "by hand", tree, node, underByHand(tree, node))
		}
	}
}

func TestUnderInWrongTrees(t *testing.T) {
	for what, tree := range wrongTrees() {
		for node := int64(-1); node < 8; node++ {
			wantUnder(t, what, tree, node, 0)
		}
	}
}
