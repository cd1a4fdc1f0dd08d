package tests

import (
	"strings"
	"testing"

	"loop.example/g00378/impl"
)

func pathByHand(t impl.Tree, node int64) string {
	n := nodeIn(t, node)
	if n == nil {
		return ""
	}
	up := pathByHand(t, n.Parent)
	if n.Parent == 1 {
		up = "~"
	}
	return up + "/" + n.Name
}

func wantPath(t *testing.T, what string, tree impl.Tree, node int64, want string) {
	t.Helper()
	was := copied(tree)
	if got := impl.PathOf(tree, node); got != want {
		t.Errorf("PathOf %d, %s: got %.80q, want %.80q", node, what, got, want)
	}
	if !sameTree(tree, was) {
		t.Errorf("PathOf %d, %s: the tree that is handed in is not as it was", node, what)
	}
}

func TestPathsInSmallTree(t *testing.T) {
	for node, want := range map[int64]string{
		0: "", 1: "", 2: "/a", 3: "/a/b", 4: "/a/b/d/c", 5: "/a/b/d", 6: "~/e", 7: "/a/f", 8: "~/h/g", 9: "~/h",
	} {
		wantPath(t, "the small tree", smallTree(), node, want)
	}
}

func TestPathsOfNoNode(t *testing.T) {
	for _, n := range append(strangeNumbers(), 0, 1) {
		wantPath(t, "a number that is none", smallTree(), n, "")
		wantPath(t, "the zero Tree", impl.Tree{}, n, "")
	}
}

func TestTheLongestPath(t *testing.T) {
	name := strings.Repeat("n", 20)
	down, up := downChain(impl.MaxOps), upChain(impl.MaxOps)
	for i := range impl.MaxOps {
		down.Nodes[i].Name, up.Nodes[i].Name = name, name
	}
	for i := range impl.MaxOps {
		wantPath(t, "a chain down", down, int64(i+2), strings.Repeat("/"+name, i+1))
		wantPath(t, "a chain up", up, int64(i+2), "~"+strings.Repeat("/"+name, impl.MaxOps-i))
	}
	wantFound(t, "the end of a chain down", down, strings.Repeat("/"+name, impl.MaxOps), impl.MaxOps+1)
	wantFound(t, "the end of a chain up", up, "~"+strings.Repeat("/"+name, impl.MaxOps), 2)
	wantFound(t, "a step behind the end", down, strings.Repeat("/"+name, impl.MaxOps+1), -1)
}

func TestPathsInManyTrees(t *testing.T) {
	for _, tree := range askedTrees() {
		for node := int64(-1); node < impl.MaxOps+4; node++ {
			wantPath(t, "by hand", tree, node, pathByHand(tree, node))
		}
	}
}

func TestPathsInWrongTrees(t *testing.T) {
	for what, tree := range wrongTrees() {
		for node := int64(-1); node < 8; node++ {
			wantPath(t, what, tree, node, "")
		}
	}
}

func TestToldPathIsNewMemory(t *testing.T) {
	tree := treeOf(nodeAt(2, 0, "node_two"), nodeAt(3, 2, "node_three"), nodeAt(4, 1, "node_four"))
	for node := int64(2); node < 5; node++ {
		path := impl.PathOf(tree, node)
		for _, text := range append(textsOf(tree), impl.PathOf(tree, node)) {
			if sharesMemory(text, path) || sharesMemory(path, text) {
				t.Errorf("PathOf %d shares memory with %q", node, text)
			}
		}
	}
}

// What is found by the path of a node has that path.
func TestWhatIsFoundByAPathHasIt(t *testing.T) {
	others := 0
	for _, tree := range askedTrees() {
		for _, n := range tree.Nodes {
			path := impl.PathOf(tree, n.Id)
			found := impl.Find(tree, path)
			if nodeIn(tree, found) == nil || impl.PathOf(tree, found) != path {
				t.Errorf("by the path %q of %d %d is found, of the path %q", path, n.Id, found, impl.PathOf(tree, found))
			}
			if found != n.Id {
				others++
			}
		}
	}
	if others < 500 {
		t.Errorf("the trees of this test have few paths of several nodes: %d times another one was found", others)
	}
}
