package tests

import (
	"fmt"
	"math/rand"
	"slices"
	"strings"
	"testing"

	"loop.example/g00378/impl"
)

// followedByHand: of right rows, and changes that rise, by the words of
// chapter 6.
func followedByHand(was []impl.Row, l []impl.Change) []impl.Row {
	rows := map[string]string{}
	for _, r := range was {
		rows[r.Key] = r.Value
	}
	for _, c := range l {
		delete(rows, c.Key)
		if c.Has {
			rows[c.Key] = c.Now
		}
	}
	var all []impl.Row
	for key, value := range rows {
		all = append(all, impl.Row{Key: key, Value: value})
	}
	slices.SortFunc(all, func(a, b impl.Row) int { return strings.Compare(a.Key, b.Key) })
	if len(all) > impl.MaxOps {
		return nil
	}
	return all
}

func wantFollowed(t *testing.T, what string, was []impl.Row, l []impl.Change, want ...impl.Row) {
	t.Helper()
	wasThen, lThen := slices.Clone(was), slices.Clone(l)
	if got := impl.Follow(was, l); !slices.Equal(got, want) {
		t.Errorf("Follow, %s: got %v, want %v", what, got, want)
	}
	if !slices.Equal(was, wasThen) || !slices.Equal(l, lThen) {
		t.Errorf("Follow, %s: what is handed in is not as it was", what)
	}
}

func changes(l ...impl.Change) []impl.Change {
	return l
}

func TestFollowOfOneChange(t *testing.T) {
	was := rowsOf("b", "1", "d", "2", "f", "3")
	for _, c := range []struct {
		change impl.Change
		want   []impl.Row
	}{
		{nowHas("b", "9"), rowsOf("b", "9", "d", "2", "f", "3")},
		{nowHas("d", "9"), rowsOf("b", "1", "d", "9", "f", "3")},
		{nowHas("f", "9"), rowsOf("b", "1", "d", "2", "f", "9")},
		{nowHas("d", ""), rowsOf("b", "1", "d", "", "f", "3")},
		{nowHas("d", "2"), was},
		{nowHas("a", "9"), rowsOf("a", "9", "b", "1", "d", "2", "f", "3")},
		{nowHas("", "9"), rowsOf("", "9", "b", "1", "d", "2", "f", "3")},
		{nowHas("c", "9"), rowsOf("b", "1", "c", "9", "d", "2", "f", "3")},
		{nowHas("dd", ""), rowsOf("b", "1", "d", "2", "dd", "", "f", "3")},
		{nowHas("g", "9"), rowsOf("b", "1", "d", "2", "f", "3", "g", "9")},
		{gone("b"), rowsOf("d", "2", "f", "3")},
		{gone("d"), rowsOf("b", "1", "f", "3")},
		{gone("f"), rowsOf("b", "1", "d", "2")},
		// It takes away what is not there.
		{gone(""), was}, {gone("a"), was}, {gone("c"), was}, {gone("dd"), was}, {gone("g"), was}, {impl.Change{}, was},
		// What it has is not asked for where it has not.
		{impl.Change{Key: "d", Now: "9"}, rowsOf("b", "1", "f", "3")},
		{impl.Change{Key: "c", Now: "9"}, was},
	} {
		wantFollowed(t, fmt.Sprintf("%+v", c.change), was, changes(c.change), c.want...)
	}
	wantFollowed(t, "no rows, one comes", nil, changes(nowHas("k", "v")), rowsOf("k", "v")...)
	wantFollowed(t, "no rows, the empty Key comes", nil, changes(nowHas("", "")), impl.Row{})
	wantFollowed(t, "no rows, one goes", nil, changes(gone("k")))
	wantFollowed(t, "the only row goes", rowsOf("k", "v"), changes(gone("k")))
}

func TestFollowOfSeveralChanges(t *testing.T) {
	was := rowsOf("b", "1", "d", "2", "e", "3", "g", "4")
	wantFollowed(t, "none", was, nil, was...)
	wantFollowed(t, "an empty list", was, []impl.Change{}, was...)
	wantFollowed(t, "none of none", nil, nil)
	wantFollowed(t, "of each", was, changes(nowHas("a", "0"), gone("c"), nowHas("d", "9"), gone("e"), nowHas("f", ""), gone("z")),
		rowsOf("a", "0", "b", "1", "d", "9", "f", "", "g", "4")...)
	wantFollowed(t, "all go", was, changes(gone("b"), gone("d"), gone("e"), gone("g")))
	wantFollowed(t, "all come ahead", was, changes(nowHas("a", "1"), nowHas("a0", "2"), nowHas("aa", "3")),
		append(rowsOf("a", "1", "a0", "2", "aa", "3"), was...)...)
	wantFollowed(t, "all come behind", was, changes(nowHas("g0", "1"), nowHas("ga", "2"), nowHas("h", "3")),
		append(slices.Clone(was), rowsOf("g0", "1", "ga", "2", "h", "3")...)...)
	wantFollowed(t, "a Key goes where the next one comes", was, changes(gone("d"), nowHas("d0", "2")), rowsOf("b", "1", "d0", "2", "e", "3", "g", "4")...)
}

// wrongChanges: none of them rising, each a right list's but for one.
func wrongChanges() map[string][]impl.Change {
	return map[string][]impl.Change{
		"Keys that fall":                  changes(nowHas("b", "1"), nowHas("a", "2")),
		"Keys that fall, which go":        changes(gone("b"), gone("a")),
		"Keys that fall at last":          changes(gone("a"), nowHas("c", "1"), gone("b")),
		"one Key twice":                   changes(nowHas("a", "1"), nowHas("a", "2")),
		"the same change twice":           changes(nowHas("a", "1"), nowHas("a", "1")),
		"one Key that goes twice":         changes(gone("a"), gone("a")),
		"one Key that goes and comes":     changes(gone("a"), nowHas("a", "1")),
		"one Key that comes and goes":     changes(nowHas("a", "1"), gone("a")),
		"the empty Key twice":             changes(impl.Change{}, impl.Change{}),
		"a Key behind one that it begins": changes(nowHas("ab", "1"), nowHas("a", "2")),
		"Keys that rise only as numbers":  changes(nowHas("9", "1"), nowHas("10", "2")),
		"a byte above 127 ahead":          changes(nowHas("\xff", "1"), nowHas("z", "2")),
	}
}

func TestFollowOfWrongChanges(t *testing.T) {
	for what, l := range wrongChanges() {
		for _, was := range [][]impl.Row{nil, rowsOf("a", "1"), rowsOf("a", "1", "b", "2", "c", "3"), manyRows(impl.MaxOps)} {
			wantFollowed(t, what, was, l)
		}
		for other, was := range wrongRows() {
			wantFollowed(t, what+", "+other, was, l)
		}
	}
}

func TestFollowOfWrongRows(t *testing.T) {
	for what, was := range wrongRows() {
		wantFollowed(t, what+", no changes", was, nil)
		wantFollowed(t, what+", one comes", was, changes(nowHas("k", "v")))
		wantFollowed(t, what+", one goes", was, changes(gone("a")))
		// Not even where right rows would be behind them.
		var all []impl.Change
		for _, r := range was {
			all = append(all, gone(r.Key))
		}
		slices.SortFunc(all, func(a, b impl.Change) int { return strings.Compare(a.Key, b.Key) })
		wantFollowed(t, what+", all go", was, slices.Compact(all))
	}
}

// comingRows: as many changes that bring Keys which are not in manyRows.
func comingRows(many int) []impl.Change {
	var l []impl.Change
	for _, r := range manyRows(many) {
		l = append(l, nowHas(r.Key+"x", r.Value))
	}
	return l
}

func goingRows(many int) []impl.Change {
	var l []impl.Change
	for _, r := range manyRows(many) {
		l = append(l, gone(r.Key))
	}
	return l
}

func TestFollowAtMaxOps(t *testing.T) {
	for _, many := range []int{0, 1, 2, impl.MaxOps / 2, impl.MaxOps - 1, impl.MaxOps} {
		was := manyRows(many)
		fits := comingRows(impl.MaxOps - many)
		want := followedByHand(was, fits)
		if len(want) != impl.MaxOps {
			t.Fatalf("%d rows by hand", len(want))
		}
		wantFollowed(t, "MaxOps rows behind them", was, fits, want...)
		wantFollowed(t, "one more", was, comingRows(impl.MaxOps-many+1))
		wantFollowed(t, "many more", was, comingRows(impl.MaxList))
	}
	most := manyRows(impl.MaxOps)
	wantFollowed(t, "one comes", most, changes(nowHas("key", "")))
	wantFollowed(t, "one comes behind all", most, changes(nowHas("z", "")))
	wantFollowed(t, "one of another Value", most, changes(nowHas(most[7].Key, "new")),
		followedByHand(most, changes(nowHas(most[7].Key, "new")))...)
	// How many there are is asked when all is done, not on the way.
	last := most[impl.MaxOps-1].Key
	wantFollowed(t, "one comes, and then one goes", most, changes(nowHas("a", "1"), gone(last)),
		append(rowsOf("a", "1"), most[:impl.MaxOps-1]...)...)
	wantFollowed(t, "two come, and then one goes", most, changes(nowHas("a", "1"), nowHas("b", "1"), gone(last)))
	var first []impl.Change
	for i := range impl.MaxOps {
		first = append(first, nowHas(fmt.Sprintf("a%03d", i), "new"))
	}
	all := append(first, goingRows(impl.MaxOps)...)
	wantFollowed(t, "MaxOps come, and then MaxOps go", most, all, followedByHand(most, all)...)
}

func TestFollowAtMaxList(t *testing.T) {
	was := rowsOf("a", "1", "key_00003", "2", "z", "3")
	wantFollowed(t, "MaxList changes", was, goingRows(impl.MaxList), rowsOf("a", "1", "z", "3")...)
	wantFollowed(t, "one more than MaxList", was, goingRows(impl.MaxList+1))
	wantFollowed(t, "many more than MaxList", was, goingRows(5000))
	wantFollowed(t, "one more than MaxList, of no rows", nil, goingRows(impl.MaxList+1))
	some := append(changes(nowHas("b", "2")), goingRows(impl.MaxList-1)...)
	wantFollowed(t, "MaxList changes, one that comes", was, some, rowsOf("a", "1", "b", "2", "z", "3")...)
	wantFollowed(t, "one more than MaxList, one that comes", was, append(some, nowHas("y", "")))
}

// Who follows the changes between right rows has those behind them.
func TestWhoFollowsHasTheRows(t *testing.T) {
	for was, now := range manyPairs {
		wantFollowed(t, "what is changed", was, impl.Changes(was, now), now...)
		wantFollowed(t, "what is changed back", now, impl.Changes(now, was), was...)
		wantFollowed(t, "what is as it was", was, impl.Changes(was, was), was...)
	}
	was, now := manyRows(impl.MaxOps), manyRows(impl.MaxOps)
	for i := range now {
		now[i].Key = "a" + now[i].Key
	}
	wantFollowed(t, "MaxOps others", was, impl.Changes(was, now), now...)
	wantFollowed(t, "MaxOps others back", now, impl.Changes(now, was), was...)
}

func TestFollowOfManyChanges(t *testing.T) {
	r := rand.New(rand.NewSource(7))
	less := 0
	for was, other := range manyPairs {
		var l []impl.Change
		for _, row := range other {
			l = append(l, impl.Change{Key: row.Key, Has: r.Intn(3) > 0, Now: row.Value})
		}
		want := followedByHand(was, l)
		wantFollowed(t, "by hand", was, l, want...)
		if len(want) < len(was) {
			less++
		}
	}
	if less < 200 {
		t.Errorf("the changes of this test take little away: %d times", less)
	}
}

// Likewise of the rows of a tree ahead of a deed and behind it.
func TestWhoFollowsATreeHasItsRows(t *testing.T) {
	r := rand.New(rand.NewSource(8))
	changed, kept := map[int64]int{}, map[int64]int{}
	for i := range 400 {
		many := []int{0, 1, 2, 3, 5, 9, 30, impl.MaxOps}[i%8]
		tree, o := anyDeedTree(r, many), anyOp(r, many)
		wantTree(t, "a tree of these tests", tree, true)
		after := impl.TreeDo(tree, o)
		for kind := int64(0); kind <= impl.AskProps+1; kind++ {
			for _, node := range []int64{0, 1, 2, int64(many + 1), o.Node, o.Parent, impl.MaxTime} {
				q := impl.Query{Kind: kind, Node: node}
				was, now := impl.Rows(tree, q), impl.Rows(after, q)
				wantRowsOf(t, "behind a deed", after, kind, node, rowsByHand(after, q)...)
				l := impl.Changes(was, now)
				wantFollowed(t, "rows of a tree", was, l, now...)
				wantChanges(t, "rows of one tree", now, impl.Rows(after, q))
				if slices.Equal(was, now) != (len(l) == 0) {
					t.Fatalf("%+v, %+v: %d changes between %v and %v", o, q, len(l), was, now)
				}
				if len(l) > 0 {
					changed[kind]++
				} else {
					kept[kind]++
				}
			}
		}
	}
	for kind := int64(impl.AskChildren); kind <= impl.AskProps; kind++ {
		if changed[kind] < 50 || kept[kind] < 50 {
			t.Errorf("the deeds of this test are of one kind: of the Kind %d %d changed rows, %d did not", kind, changed[kind], kept[kind])
		}
	}
	if changed[0] > 0 || changed[impl.AskProps+1] > 0 {
		t.Error("rows of a Kind that is none changed")
	}
}

func TestToldFollowIsNewMemory(t *testing.T) {
	room := slices.Concat(rowsOf("key_a", "value_a", "key_c", "value_c", "key_e", "value_e"), make([]impl.Row, 10))
	was := room[:3]
	for _, l := range [][]impl.Change{nil, changes(gone("key_b")), changes(gone("key_a")), changes(nowHas("key_b", "value_b")),
		changes(nowHas("key_c", "other_c")), changes(gone("key_a"), nowHas("key_d", "value_d"), nowHas("key_f", "value_f"))} {
		wasThen, lThen := slices.Clone(was), slices.Clone(l)
		got := impl.Follow(was, l)
		texts := textsOfRows(was)
		for _, c := range l {
			texts = append(texts, c.Key, c.Now)
		}
		wantRowTextsApart(t, got, texts)
		spoilRows(got)
		if !slices.Equal(was, wasThen) || !slices.Equal(l, lThen) {
			t.Fatalf("%v: who writes to what is told writes to what was handed in", l)
		}
		for _, r := range room[3:] {
			if r != (impl.Row{}) {
				t.Fatalf("%v: what lies behind the rows is written to: %+v", l, r)
			}
		}
		wantFollowed(t, "once more", was, l, followedByHand(was, l)...)
	}
}
