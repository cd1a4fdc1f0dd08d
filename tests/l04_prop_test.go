package tests

import (
	"strings"
	"testing"

	"loop.example/g00378/impl"
)

func wantProp(t *testing.T, what string, tree impl.Tree, node int64, key string, want string) {
	t.Helper()
	was := copied(tree)
	if got := impl.PropOf(tree, node, key); got != want {
		t.Errorf("PropOf %d, %.40q, %s: got %q, want %q", node, key, what, got, want)
	}
	if !sameTree(tree, was) {
		t.Errorf("PropOf %d, %.40q, %s: the tree that is handed in is not as it was", node, key, what)
	}
}

func TestPropsThatAreThere(t *testing.T) {
	full := manyProps(20)
	great := strings.Repeat("\xff", 40)
	long := strings.Repeat("k", 20)
	tree := treeOf(nodeAt(2, 0, "a", full...), nodeAt(3, 2, "b", impl.Prop{Key: "k", Value: "of three"}, impl.Prop{Key: "ka", Value: "a/b ~"}),
		nodeAt(4, 1, "c", impl.Prop{Key: "k", Value: "of four"}, impl.Prop{Key: long, Value: great}), nodeAt(5, 4, "d"))
	for _, p := range full {
		wantProp(t, "one of 20", tree, 2, p.Key, p.Value)
	}
	wantProp(t, "one Key of several nodes", tree, 3, "k", "of three")
	wantProp(t, "one Key of several nodes", tree, 4, "k", "of four")
	wantProp(t, "a Key that another one begins", tree, 3, "ka", "a/b ~")
	wantProp(t, "the longest Key and Value", tree, 4, long, great)
	wantProp(t, "an empty Value", tree, 2, "ka", "")
	for _, key := range []string{"", "a", "kA", "kz", "k", "kaa", "K", "k ", "ka\x00", "/ka", long, strings.Repeat("k", 21)} {
		wantProp(t, "a Key that is not there", tree, 2, key, "")
		wantProp(t, "a node without Props", tree, 5, key, "")
	}
}

func TestPropsOfNoNode(t *testing.T) {
	tree := treeOf(nodeAt(2, 0, "a", impl.Prop{Key: "k", Value: "v"}), nodeAt(3, 1, "b", impl.Prop{Key: "k", Value: "w"}))
	for _, n := range append(strangeNumbers(), 0, 1, 4) {
		wantProp(t, "a number that is none", tree, n, "k", "")
		wantProp(t, "a number that is none, the empty Key", tree, n, "", "")
		wantProp(t, "the zero Tree", impl.Tree{}, n, "k", "")
	}
}

func TestPropsAtMaxBytes(t *testing.T) {
	tree := treeOf(nodeAt(2, 0, "a", impl.Prop{Key: "k", Value: "v"}, impl.Prop{Key: strings.Repeat("k", 20), Value: "w"}))
	for _, size := range []int{21, impl.MaxBytes - 1, impl.MaxBytes, impl.MaxBytes + 1, 5 * impl.MaxBytes} {
		wantProp(t, "a great key", tree, 2, strings.Repeat("k", size), "")
		wantProp(t, "a great key of no node", tree, 3, strings.Repeat("k", size), "")
		wantProp(t, "a great key of a wrong tree", ringTree(2), 2, strings.Repeat("k", size), "")
	}
	long := strings.Repeat("k", impl.MaxBytes+1)
	wrong := treeOf(nodeAt(2, 0, "a", impl.Prop{Key: long, Value: "v"}))
	wantProp(t, "a great Key that is there", wrong, 2, long, "")
}

func TestPropsOfManyTrees(t *testing.T) {
	for _, tree := range askedTrees() {
		if len(tree.Nodes) > 30 {
			continue // each Key of each node of a great one is much to ask
		}
		for _, n := range tree.Nodes {
			values := map[string]string{}
			for _, p := range n.Props {
				values[p.Key] = p.Value
			}
			for _, p := range manyProps(22) {
				wantProp(t, "by hand", tree, n.Id, p.Key, values[p.Key])
			}
		}
	}
}

func TestPropsInWrongTrees(t *testing.T) {
	for what, tree := range wrongTrees() {
		for node := int64(-1); node < 8; node++ {
			wantProp(t, what, tree, node, "k", "")
			wantProp(t, what, tree, node, "K", "")
			wantProp(t, what, tree, node, "ka", "")
		}
	}
}

func TestToldPropIsNewMemory(t *testing.T) {
	tree := treeOf(nodeAt(2, 0, "a", impl.Prop{Key: "key_one", Value: "value_one"}, impl.Prop{Key: "key_two", Value: "v"}))
	for _, key := range []string{"key_one", "key_two"} {
		got := impl.PropOf(tree, 2, key)
		for _, text := range append(textsOf(tree), key) {
			if sharesMemory(text, got) {
				t.Errorf("PropOf %q shares memory with %q", key, text)
			}
		}
	}
}
