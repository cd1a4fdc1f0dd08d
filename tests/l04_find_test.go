package tests

import (
	"math/rand"
	"strings"
	"testing"

	"loop.example/g00378/impl"
)

// findByHand goes down step by step with all nodes to which the Names lead so
// far: the first one that is left is that of the first ways.
func findByHand(t impl.Tree, path string) int64 {
	level := []int64{0}
	if strings.HasPrefix(path, "~") {
		level, path = []int64{1}, path[1:]
	}
	for i, name := range strings.Split(path, "/") {
		if i == 0 && name != "" || path == "" {
			return -1
		}
		if i == 0 {
			continue
		}
		var next []int64
		for _, parent := range level {
			for _, id := range childrenByHand(t, parent) {
				if nodeIn(t, id).Name == name {
					next = append(next, id)
				}
			}
		}
		level = next
	}
	if len(level) == 0 {
		return -1
	}
	return level[0]
}

func wantFound(t *testing.T, what string, tree impl.Tree, path string, want int64) {
	t.Helper()
	was := copied(tree)
	if got := impl.Find(tree, path); got != want {
		t.Errorf("Find of %d bytes %.80q, %s: got %d, want %d", len(path), path, what, got, want)
	}
	if !sameTree(tree, was) {
		t.Errorf("Find of %.80q, %s: the tree that is handed in is not as it was", path, what)
	}
}

func TestFindInSmallTree(t *testing.T) {
	for path, want := range map[string]int64{
		"/a": 2, "/a/b": 3, "/a/b/d": 5, "/a/b/d/c": 4, "/a/f": 7, "~/e": 6, "~/h": 9, "~/h/g": 8,
		"~/a": -1, "~/a/b": -1, "/e": -1, "/h/g": -1, "/b": -1, "/b/d": -1, "/a/d": -1, "/a/c": -1, "/a/a": -1, "/a/b/d/c/c": -1,
		"/g": -1, "~/g": -1, "/a/b/f": -1, "/f/a": -1, "/z": -1, "/a/b/z": -1, "/z/b": -1, "/aa": -1, "/a/bb": -1,
	} {
		wantFound(t, "the small tree", smallTree(), path, want)
		wantFound(t, "the zero Tree", impl.Tree{}, path, -1)
	}
}

func TestFindOfNoPath(t *testing.T) {
	for _, path := range []string{
		"", "~", "/", "~/", "//", "~//", "///", "a", "a/b", "~a", "~a/b", "~h/g", "~~/h", "~~", "/~/h", "/~", "~/~/h", " /a",
		"/a/", "/a//", "/a/b/", "~/h/", "~/h/g/", "//a", "//a/b", "///a", "~//h", "~//h/g", "/a//b", "/a/b//d", "~/h//g", "/a/b/d//c",
		"/A", "/a/B", "/ a", "/a ", "/a/ b", "/a/b\n", "/a\x00", "/a/./b", "/./a", "/a/../a", "/1", "/0/a", "/a\\b", "/\xff", "/a/\xe9",
		"/2", "~/9", "/" + strings.Repeat("a", 21), "/a/" + strings.Repeat("b", 21), "/_", "/-1", "\\a",
	} {
		wantFound(t, "the small tree", smallTree(), path, -1)
		wantFound(t, "the zero Tree", impl.Tree{}, path, -1)
		wantFound(t, "all of one Name", flatTree(20), path, -1)
	}
}

func TestFindOfOneNameOfSeveral(t *testing.T) {
	for _, top := range []int64{0, 1} {
		sign := strings.Repeat("~", int(top))
		twins := treeOf(nodeAt(2, top, "a"), nodeAt(3, top, "a"), nodeAt(4, 3, "b"), nodeAt(5, 3, "b"), nodeAt(6, 5, "c"), nodeAt(7, 2, "d"))
		wantFound(t, "the first of two", twins, sign+"/a", 2)
		wantFound(t, "only the second leads on", twins, sign+"/a/b", 4)
		wantFound(t, "only the second of the second leads on", twins, sign+"/a/b/c", 6)
		wantFound(t, "only the first leads on", twins, sign+"/a/d", 7)
		wantFound(t, "none of them leads on", twins, sign+"/a/d/c", -1)
		wantFound(t, "none of them leads on", twins, sign+"/a/c", -1)
		wantFound(t, "of the other top", twins, strings.Repeat("~", int(1-top))+"/a", -1)
	}
	// The first at each step goes ahead, not the one of the least Id.
	steps := treeOf(nodeAt(2, 9, "b"), nodeAt(3, 8, "b"), nodeAt(8, 0, "a"), nodeAt(9, 0, "a"))
	wantFound(t, "the first step's order goes ahead", steps, "/a/b", 3)
	steps.Nodes[1].Parent = 9
	wantFound(t, "the least of those below the second", steps, "/a/b", 2)
	third := treeOf(nodeAt(2, 0, "a"), nodeAt(3, 0, "a"), nodeAt(4, 0, "a"), nodeAt(5, 2, "b"), nodeAt(6, 3, "b"), nodeAt(7, 4, "b"), nodeAt(8, 7, "c"), nodeAt(9, 6, "d"))
	wantFound(t, "the third leads on", third, "/a/b/c", 8)
	wantFound(t, "the second leads on", third, "/a/b/d", 9)
	wantFound(t, "the first leads on", third, "/a/b", 5)
	begun := treeOf(nodeAt(2, 0, "a"), nodeAt(3, 0, "ab"), nodeAt(4, 2, "bc"), nodeAt(5, 3, "c"))
	wantFound(t, "a Name that begins another", begun, "/ab", 3)
	wantFound(t, "a Name that another begins", begun, "/a/bc", 4)
	wantFound(t, "Names with the slash elsewhere", begun, "/ab/c", 5)
	wantFound(t, "Names with the slash elsewhere", begun, "/a/b/c", -1)
	wantFound(t, "a Name's beginning", begun, "/a/b", -1)
}

func TestFindAtMaxBytes(t *testing.T) {
	wrong := wrongTrees()["a ring of one"]
	for _, c := range []struct {
		what string
		path string
	}{
		{"one Name", "/" + strings.Repeat("n", impl.MaxBytes-1)},
		{"one Name in the trash", "~/" + strings.Repeat("n", impl.MaxBytes-2)},
		{"many Names", strings.Repeat("/n", impl.MaxBytes/2)},
		{"slashes", strings.Repeat("/", impl.MaxBytes)},
		{"no path", strings.Repeat("n", impl.MaxBytes)},
	} {
		if len(c.path) != impl.MaxBytes {
			t.Fatalf("%s: %d bytes", c.what, len(c.path))
		}
		for _, tree := range []impl.Tree{{}, smallTree(), flatTree(impl.MaxOps), downChain(impl.MaxOps), upChain(impl.MaxOps)} {
			wantFound(t, c.what, tree, c.path, -1)
			wantFound(t, c.what+", one byte more", tree, c.path+"n", 0)
			wantFound(t, c.what+", one byte more ahead", tree, "~"+c.path, 0)
			wantFound(t, c.what+", many bytes more", tree, strings.Repeat(c.path, 5), 0)
		}
		wantFound(t, c.what+", a wrong tree", wrong, c.path, 0)
		wantFound(t, c.what+", a wrong tree, one byte more", wrong, c.path+"n", 0)
	}
}

// anyPath: some lead to a node, some do not, some are none.
func anyPath(r *rand.Rand) string {
	signs := []string{"/a", "/a", "/a0", "/a_", "/aa", "/b", "/b", "/c", "/", "a", "~"}
	path := []string{"", "", "", "", "~"}[r.Intn(5)]
	for range r.Intn(5) {
		path += signs[r.Intn(len(signs))]
	}
	return path
}

func TestFindInManyTrees(t *testing.T) {
	r := rand.New(rand.NewSource(5))
	found, none := 0, 0
	for _, tree := range askedTrees() {
		for _, n := range tree.Nodes {
			path := pathByHand(tree, n.Id)
			wantFound(t, "by hand, the path of a node", tree, path, findByHand(tree, path))
		}
		for range 100 {
			path := anyPath(r)
			want := findByHand(tree, path)
			wantFound(t, "by hand, any path", tree, path, want)
			if want == -1 {
				none++
			} else {
				found++
			}
		}
	}
	if found < 300 || none < 300 {
		t.Errorf("the paths of this test are of one kind: %d led to a node, %d did not", found, none)
	}
}

func TestFindInWrongTrees(t *testing.T) {
	for what, tree := range wrongTrees() {
		for _, path := range []string{"/a", "/a/b", "~/c", "/d", "/b", "/z", "", "~", "a", "/a/", "//a"} {
			wantFound(t, what, tree, path, 0)
		}
	}
}
