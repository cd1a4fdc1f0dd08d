package tests

import (
	"fmt"
	"math/rand"
	"slices"
	"strings"
	"sync"
	"testing"

	"loop.example/g00378/impl"
)

// anyDeskLine: a right line with few nodes and names, so that they meet; wild
// ones have words that are refused.
func anyDeskLine(r *rand.Rand, kinds []string, wild bool) string {
	node := func() string {
		if wild && r.Intn(6) == 0 {
			return oneOf(r, "0", "1", "7", "1000000", "1000001", "999999999")
		}
		return oneOf(r, "2", "2", "3", "3", "4", "5")
	}
	name := func() string {
		if wild && r.Intn(6) == 0 {
			return oneOf(r, "X", "-", "\xff", "x/y", strings.Repeat("n", 21), "0")
		}
		return oneOf(r, "x", "x", "y")
	}
	who := oneOf(r, "a", "b")
	switch kind := oneOf(r, kinds...); kind {
	case "move":
		return fmt.Sprintf("move %s %s %s %s", who, node(), oneOf(r, node(), "0", "0", "1"), name())
	case "set":
		return fmt.Sprintf("set %s %s %s %s", who, node(), name(), oneOf(r, "v", "w", "-", "é", "\x80", strings.Repeat("v", 40)))
	case "find":
		return fmt.Sprintf("find %s %s/%s%s", who, oneOf(r, "", "", "~"), name(), oneOf(r, "", "/"+name(), "/"+name()+"/"+name()))
	case "prop":
		return fmt.Sprintf("prop %s %s %s", who, node(), name())
	case "rows":
		return fmt.Sprintf("rows %s %s %s", who, oneOf(r, "1", "1", "2", "3", "4", "4", "5", "0"), oneOf(r, node(), "0", "1"))
	default:
		return kind + " " + who
	}
}

// deskCharacters: of what kinds the lines of a text are.
func deskCharacters() map[string][]string {
	deeds := []string{"move", "move", "move", "set"}
	asks := []string{"tree", "find", "prop", "rows"}
	return map[string][]string{
		"of all":           slices.Concat(deeds, asks, []string{"sync", "sync"}),
		"mostly deeds":     slices.Concat(deeds, deeds, deeds, []string{"sync", "tree"}),
		"deeds and syncs":  slices.Concat(deeds, []string{"sync", "sync", "sync", "tree", "tree"}),
		"without syncs":    slices.Concat(deeds, asks),
		"nothing but asks": asks,
		"moves":            {"move", "move", "sync", "tree"},
		"one long Out":     {"move", "set", "set", "set", "set", "set", "set", "set"},
	}
}

func anyDesk(r *rand.Rand, kinds []string) []string {
	wild := r.Intn(2) == 0
	lines := []string{"move a 2 0 x", "move a 3 2 y", "sync a", "sync b"}[:oneOf(r, 0, 0, 1, 4)]
	for range oneOf(r, 1, 3, 8, 20, 36, 36) {
		lines = append(lines, anyDeskLine(r, kinds, wild))
	}
	return lines
}

// manyDesks: right texts of all characters.
func manyDesks(yield func(what string, lines []string)) {
	for what, kinds := range deskCharacters() {
		r := rand.New(rand.NewSource(int64(len(what))))
		for range 60 {
			yield(what, anyDesk(r, kinds))
		}
	}
}

func TestAnyDeskIsAsByHand(t *testing.T) {
	saw := map[string]int{}
	manyDesks(func(what string, lines []string) {
		text := feeds(lines...)
		if fault := faultByHand(text); fault.Code != impl.OK {
			t.Fatalf("%s: by hand %+v of %q", what, fault, text)
		}
		model := newDeskModel()
		wantDesk(t, what, text, impl.DeskOut{Text: model.run(text)})
		for kind, many := range model.saw {
			saw[kind] += many
		}
	})
	for _, kind := range []string{
		"move: ok", "move: error 1", "move: error 6", "move: error 10", "set: ok", "set: error 1", "set: error 6", "sync: ok n", "tree: tree", "tree: tree /x",
		"find: -", "find: n", "prop: prop -", "prop: prop v", "rows: -", "rows: under=n", "rows: n=x",
	} {
		if saw[kind] == 0 {
			t.Errorf("no text told %q", kind)
		}
	}
}

// Promise 11: so many lines are told as there are, and the first lines of a
// text tell the beginning of what all tell.
func TestEachLineTellsALine(t *testing.T) {
	manyDesks(func(what string, lines []string) {
		whole := strings.SplitAfter(impl.DeskRun(feeds(lines...)).Text, "\n")
		if len(whole) != len(lines)+1 || whole[len(lines)] != "" {
			t.Fatalf("%s: %d lines tell %q", what, len(lines), whole)
		}
		for many := range len(lines) + 1 {
			text := feeds(lines[:many]...)
			want := impl.DeskOut{Text: strings.Join(whole[:many], "")}
			if got := impl.DeskRun(text); got != want {
				t.Fatalf("%s: the first %d lines of %q tell %+v, want %+v", what, many, lines, got, want)
			}
			if got := impl.DeskFault(text); got != (impl.DeskOut{}) {
				t.Fatalf("%s: the first %d lines of %q: DeskFault tells %+v", what, many, lines, got)
			}
		}
	})
}

// Who asks changes nothing: the other lines tell the same without it.
func TestAskingChangesNothing(t *testing.T) {
	manyDesks(func(what string, lines []string) {
		told := strings.SplitAfter(impl.DeskRun(feeds(lines...)).Text, "\n")
		var others []string
		want := ""
		for i, line := range lines {
			if word, _, _ := strings.Cut(line, " "); slices.Contains([]string{"move", "set", "sync"}, word) {
				others = append(others, line)
				want += told[i]
			}
		}
		if got := impl.DeskRun(feeds(others...)).Text; got != want {
			t.Fatalf("%s: without those that ask %q tells %q, want %q", what, others, got, want)
		}
	})
}

// Of a text with a fault, wherever it stands, nothing is told.
func TestAnyDeskWithAFault(t *testing.T) {
	wrong := []string{"", "tree", "tree c", "sync a b", "move a 2 0", "move a 02 0 x", "move  a 2 0 x", "set a 2 k v ", "Tree a", "\xff", "rows a -1 0"}
	r := rand.New(rand.NewSource(11))
	manyDesks(func(what string, lines []string) {
		at := r.Intn(len(lines))
		broken := slices.Clone(lines)
		broken[at] = oneOf(r, wrong...)
		wantFault(t, what, feeds(broken...), int64(at), impl.ErrSyntax)
		text := feeds(lines...)
		wantFault(t, what+", cut", text[:len(text)-1], int64(len(lines)-1), impl.ErrSyntax)
		spoilt := []byte(text)
		for range 1 + r.Intn(2) {
			spoilt[r.Intn(len(spoilt))] = oneOf(r, ' ', '\n', '0', 'a', 'A', '-', 0, 0xff, byte(r.Intn(256)))
		}
		wantDesk(t, what+", spoilt", string(spoilt), deskByHand(string(spoilt)))
	})
}

// Nothing is kept, also if several desks are at work at once.
func TestDesksAtOnce(t *testing.T) {
	var all sync.WaitGroup
	manyDesks(func(what string, lines []string) {
		all.Go(func() {
			text := feeds(lines...)
			if got, want := impl.DeskRun(text), deskByHand(text); got != want {
				t.Errorf("%s: %q tells %+v, want %+v", what, text, got, want)
			}
		})
	})
	all.Wait()
}

// Two hands, each of which moves one node below the other one.

// inRow: so many nodes, each below the one ahead of it, or all below 0; and
// each with a value.
func inRow(who string, many int, chain bool) []string {
	var lines []string
	for id := 2; id < many+2; id++ {
		parent := 0
		if chain && id > 2 {
			parent = id - 1
		}
		lines = append(lines, fmt.Sprintf("move %s %d %d n%d", who, id, parent, id))
	}
	return append(lines, fmt.Sprintf("set %s 2 k of_two", who))
}

// syncedTwice: the orders in which both hands may sync twice, so that each has
// what the other one did.
func syncedTwice() [][]string {
	return [][]string{{"sync a", "sync b", "sync a", "sync b"}, {"sync b", "sync a", "sync b", "sync a"}, {"sync a", "sync b", "sync b", "sync a"}, {"sync b", "sync a", "sync a", "sync b"}}
}

// wantLikeTrees: the last lines tell the same for a and for b; it is told of
// all nodes, once each.
func wantLikeTrees(t *testing.T, what string, lines []string, many int) string {
	t.Helper()
	asks := []string{"tree WHO", "rows WHO 3 0", "rows WHO 4 2", "rows WHO 4 3", "prop WHO 2 of_a", "prop WHO 3 of_b"}
	for _, who := range []string{"a", "b"} {
		for _, ask := range asks {
			lines = append(lines, strings.ReplaceAll(ask, "WHO", who))
		}
	}
	text := feeds(lines...)
	wantDesk(t, what, text, deskByHand(text))
	told := strings.Split(strings.TrimSuffix(impl.DeskRun(text).Text, "\n"), "\n")
	told = told[len(told)-2*len(asks):]
	ofA, ofB := told[:len(asks)], told[len(asks):]
	if !slices.Equal(ofA, ofB) {
		t.Errorf("%s: a tells %q, b tells %q", what, ofA, ofB)
	}
	if ofA[1] != fmt.Sprint("under=", many) {
		t.Errorf("%s: not all of %d nodes are there: %q", what, many, ofA)
	}
	for id := 2; id < many+2; id++ {
		if strings.Count(ofA[0]+" ", fmt.Sprintf("/n%d ", id)) != 1 {
			t.Errorf("%s: the node %d is not there once: %q", what, id, ofA[0])
		}
	}
	if ofA[2] != "k=of_two of_a=yes" || ofA[4] != "prop yes" || ofA[5] != "prop as_well" {
		t.Errorf("%s: what was set is not there: %q", what, ofA)
	}
	return ofA[0]
}

func TestTwoHandsMoveOneNodeBelowTheOther(t *testing.T) {
	for _, first := range []string{"a", "b"} {
		second := string("ba"[first[0]-'a'])
		for many := 2; many < 6; many++ {
			for _, syncs := range syncedTwice() {
				for x := 2; x < many+2; x++ {
					for y := 2; y < many+2; y++ {
						if x == y {
							continue
						}
						both := []string{
							fmt.Sprintf("move a %d %d n%d", x, y, x), "set a 2 of_a yes", fmt.Sprintf("move b %d %d n%d", y, x, y), "set b 3 of_b as_well",
						}
						lines := slices.Concat(inRow(first, many, false), []string{"sync " + first, "sync " + second}, both, syncs)
						tree := wantLikeTrees(t, fmt.Sprintf("%s made %d, a moves %d below %d, %v", first, many, x, y, syncs), lines, many)
						// Both have the same Clock: a's deed is ahead, and b's would be a loop.
						if !strings.Contains(tree, fmt.Sprintf(" /n%d/n%d", y, x)) {
							t.Errorf("%q: got %q", lines, tree)
						}
					}
				}
			}
		}
	}
}

// One below the other from the beginning: one of both moves is refused, if the
// one lies below the other one there already.
func TestTwoHandsMoveNodesOfAChain(t *testing.T) {
	for _, syncs := range syncedTwice() {
		for many := 2; many < 6; many++ {
			for x := 2; x < many+2; x++ {
				for y := 2; y < many+2; y++ {
					lines := slices.Concat(inRow("a", many, true), []string{
						"sync a", "sync b", fmt.Sprintf("move a %d %d n%d", x, y, x), fmt.Sprintf("move b %d %d n%d", y, x, y), "set a 2 of_a yes", "set b 3 of_b as_well",
					}, syncs)
					wantLikeTrees(t, fmt.Sprintf("a chain of %d, a moves %d below %d, %v", many, x, y, syncs), lines, many)
				}
			}
		}
	}
}

// Each moves several nodes, at other times: the trees are alike still.
func TestTwoHandsMoveManyNodes(t *testing.T) {
	r := rand.New(rand.NewSource(12))
	for i := range 300 {
		many := 3 + r.Intn(4)
		lines := slices.Concat(inRow("a", many, r.Intn(2) == 0), []string{"sync a", "sync b", "set a 2 of_a yes", "set b 3 of_b as_well"})
		for range 8 {
			x := 2 + r.Intn(many)
			lines = append(lines, fmt.Sprintf("move %s %d %d n%d", oneOf(r, "a", "b"), x, oneOf(r, 0, 2+r.Intn(many), 2+r.Intn(many)), x))
		}
		lines = append(lines, oneOf(r, syncedTwice()...)...)
		wantLikeTrees(t, fmt.Sprint("some moves ", i), lines, many)
	}
}

// Three in a ring: each hand moves one below the next, and then the next one.
func TestTwoHandsMakeARingOfThree(t *testing.T) {
	for _, syncs := range syncedTwice() {
		lines := slices.Concat(inRow("b", 3, false), []string{
			"sync b", "sync a", "move a 2 3 n2", "move b 3 4 n3", "move a 4 2 n4", "set a 2 of_a yes", "set b 3 of_b as_well",
		}, syncs)
		// a's second move is behind b's, which it did not know.
		if tree := wantLikeTrees(t, fmt.Sprint("a ring, ", syncs), lines, 3); tree != "tree /n4 /n4/n3 /n4/n3/n2" {
			t.Errorf("%q: got %q", lines, tree)
		}
	}
}
