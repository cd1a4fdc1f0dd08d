package tests

import (
	"fmt"
	"math/rand"
	"slices"
	"strings"
	"testing"

	"loop.example/g00378/impl"
)

func gone(key string) impl.Change {
	return impl.Change{Key: key}
}

func nowHas(key, value string) impl.Change {
	return impl.Change{Key: key, Has: true, Now: value}
}

// changesByHand: of right rows, by the words of chapter 6.
func changesByHand(was, now []impl.Row) []impl.Change {
	old, young := map[string]string{}, map[string]string{}
	for _, r := range was {
		old[r.Key] = r.Value
	}
	for _, r := range now {
		young[r.Key] = r.Value
	}
	var l []impl.Change
	for key := range old {
		if _, has := young[key]; !has {
			l = append(l, gone(key))
		}
	}
	for key, value := range young {
		if before, had := old[key]; !had || before != value {
			l = append(l, nowHas(key, value))
		}
	}
	slices.SortFunc(l, func(a, b impl.Change) int { return strings.Compare(a.Key, b.Key) })
	return l
}

func wantChanges(t *testing.T, what string, was, now []impl.Row, want ...impl.Change) {
	t.Helper()
	wasThen, nowThen := slices.Clone(was), slices.Clone(now)
	if got := impl.Changes(was, now); !slices.Equal(got, want) {
		t.Errorf("Changes, %s: got %v, want %v", what, got, want)
	}
	if !slices.Equal(was, wasThen) || !slices.Equal(now, nowThen) {
		t.Errorf("Changes, %s: the rows that are handed in are not as they were", what)
	}
}

func TestChangesOfOneKey(t *testing.T) {
	wantChanges(t, "none and none", nil, []impl.Row{})
	wantChanges(t, "only was has it", rowsOf("k", "v"), nil, gone("k"))
	wantChanges(t, "only was has it, without a Value", rowsOf("k", ""), nil, gone("k"))
	wantChanges(t, "only now has it", nil, rowsOf("k", "v"), nowHas("k", "v"))
	wantChanges(t, "only now has it, without a Value", nil, rowsOf("k", ""), nowHas("k", ""))
	wantChanges(t, "another Value", rowsOf("k", "v"), rowsOf("k", "w"), nowHas("k", "w"))
	wantChanges(t, "a Value that the other begins", rowsOf("k", "v"), rowsOf("k", "vv"), nowHas("k", "vv"))
	wantChanges(t, "a Value that comes", rowsOf("k", ""), rowsOf("k", "v"), nowHas("k", "v"))
	wantChanges(t, "a Value that goes", rowsOf("k", "v"), rowsOf("k", ""), nowHas("k", ""))
	wantChanges(t, "as it was", rowsOf("k", "v"), rowsOf("k", "v"))
	wantChanges(t, "as it was, without a Value", rowsOf("k", ""), rowsOf("k", ""))
	wantChanges(t, "the empty Key goes", rowsOf("", "v"), nil, gone(""))
	wantChanges(t, "the empty Key comes", nil, rowsOf("", ""), nowHas("", ""))
	wantChanges(t, "the empty Key of another Value", rowsOf("", "v"), rowsOf("", ""), nowHas("", ""))
	wantChanges(t, "the empty Key as it was", rowsOf("", ""), rowsOf("", ""))
}

func TestChangesOfSeveralKeys(t *testing.T) {
	was := rowsOf("b", "1", "d", "2", "e", "3", "g", "4")
	wantChanges(t, "of each", was, rowsOf("a", "0", "b", "1", "c", "0", "d", "9", "g", "", "h", "0"),
		nowHas("a", "0"), nowHas("c", "0"), nowHas("d", "9"), gone("e"), nowHas("g", ""), nowHas("h", "0"))
	wantChanges(t, "all go", was, nil, gone("b"), gone("d"), gone("e"), gone("g"))
	wantChanges(t, "all come", nil, was, nowHas("b", "1"), nowHas("d", "2"), nowHas("e", "3"), nowHas("g", "4"))
	wantChanges(t, "all others", was, rowsOf("c", "1", "f", "4"), gone("b"), nowHas("c", "1"), gone("d"), gone("e"), nowHas("f", "4"), gone("g"))
	wantChanges(t, "all behind", was, rowsOf("x", "1"), gone("b"), gone("d"), gone("e"), gone("g"), nowHas("x", "1"))
	wantChanges(t, "all ahead", was, rowsOf("a", "1"), nowHas("a", "1"), gone("b"), gone("d"), gone("e"), gone("g"))
	wantChanges(t, "a Value that goes from Key to Key", rowsOf("a", "v"), rowsOf("b", "v"), gone("a"), nowHas("b", "v"))
	wantChanges(t, "Keys that begin others", rowsOf("a", "1", "aa", "2", "ab", "3"), rowsOf("", "0", "a", "1", "a0", "4", "aa", "5"),
		nowHas("", "0"), nowHas("a0", "4"), nowHas("aa", "5"), gone("ab"))
	wantChanges(t, "Keys of any bytes", rowsOf("\x00", "1", "10", "1", "\x80", "1"), rowsOf("1000", "1", "9", "1", "\xff", "1"),
		gone("\x00"), gone("10"), nowHas("1000", "1"), nowHas("9", "1"), gone("\x80"), nowHas("\xff", "1"))
}

func TestNoChangeOfWhatIsAsItWas(t *testing.T) {
	for _, l := range [][]impl.Row{nil, rowsOf("", ""), rowsOf("a", "1", "b", ""), manyRows(3), manyRows(impl.MaxOps)} {
		wantChanges(t, "the same rows", l, l)
		wantChanges(t, "rows alike", l, slices.Clone(l))
	}
	was := manyRows(impl.MaxOps)
	for at := range was {
		now := slices.Clone(was)
		now[at].Value = "new"
		wantChanges(t, "one other Value", was, now, nowHas(was[at].Key, "new"))
		wantChanges(t, "one less", was, slices.Delete(slices.Clone(was), at, at+1), gone(was[at].Key))
		wantChanges(t, "one more", slices.Delete(slices.Clone(was), at, at+1), was, nowHas(was[at].Key, was[at].Value))
	}
}

// More changes than MaxOps: only rows are so few.
func TestChangesAtMaxOps(t *testing.T) {
	was, now := manyRows(impl.MaxOps), manyRows(impl.MaxOps)
	for i := range now {
		now[i].Key += "x"
	}
	got := impl.Changes(was, now)
	if len(got) != 2*impl.MaxOps || !slices.Equal(got, changesByHand(was, now)) {
		t.Errorf("MaxOps rows go, MaxOps others come: got %d changes", len(got))
	}
}

func TestChangesOfWrongRows(t *testing.T) {
	for what, wrong := range wrongRows() {
		for _, right := range [][]impl.Row{nil, rowsOf("k", "v"), manyRows(impl.MaxOps)} {
			wantChanges(t, what+", was", wrong, right)
			wantChanges(t, what+", now", right, wrong)
		}
		wantChanges(t, what+", both", wrong, wrong)
		for other, l := range wrongRows() {
			wantChanges(t, what+", "+other, wrong, l)
		}
	}
}

// anyRows: right, of few Keys, so that two lists of them have some of both.
func anyRows(r *rand.Rand, many int) []impl.Row {
	keys := map[string]bool{}
	for len(keys) < many {
		key := fmt.Sprint(r.Intn(2 * many))
		if r.Intn(20) == 0 {
			key = strings.Repeat("\xff", r.Intn(4))
		}
		keys[key] = true
	}
	var l []impl.Row
	for key := range keys {
		l = append(l, impl.Row{Key: key})
	}
	slices.SortFunc(l, func(a, b impl.Row) int { return strings.Compare(a.Key, b.Key) })
	for i := range l {
		l[i].Value = []string{"", "", "v", "w"}[r.Intn(4)]
	}
	return l
}

// manyPairs goes through right rows of many forms, the same each time the
// tests run.
func manyPairs(yield func(was, now []impl.Row) bool) {
	r := rand.New(rand.NewSource(6))
	sizes := []int{0, 1, 2, 3, 5, 9, 30, impl.MaxOps}
	for i := range 2000 {
		if !yield(anyRows(r, sizes[i%8]), anyRows(r, sizes[r.Intn(8)])) {
			return
		}
	}
}

func TestChangesOfManyRows(t *testing.T) {
	for was, now := range manyPairs {
		wantRows(t, "rows of these tests", was, true)
		wantChanges(t, "by hand", was, now, changesByHand(was, now)...)
		wantChanges(t, "any rows and the same", was, was)
	}
}

func TestToldChangesAreNewMemory(t *testing.T) {
	was := rowsOf("key_one", "value_one", "key_two", "value_two", "key_three_x", "value_three")
	slices.SortFunc(was, func(a, b impl.Row) int { return strings.Compare(a.Key, b.Key) })
	now := rowsOf("key_four", "value_four", "key_one", "other_value", "key_zwo", "value_five")
	wasThen, nowThen := slices.Clone(was), slices.Clone(now)
	want := changesByHand(was, now)
	got := impl.Changes(was, now)
	for _, c := range got {
		for _, text := range append(textsOfRows(was), textsOfRows(now)...) {
			if sharesMemory(text, c.Key) || sharesMemory(text, c.Now) {
				t.Fatalf("the change %+v shares memory with what was handed in", c)
			}
		}
	}
	_ = append(got, make([]impl.Change, cap(got)-len(got))...)
	clear(got)
	if !slices.Equal(was, wasThen) || !slices.Equal(now, nowThen) {
		t.Error("who writes to the changes writes to the rows")
	}
	wantChanges(t, "once more", was, now, want...)
}

// Behind the rows that are handed in lies what is the caller's.
func TestChangesLeaveWhatIsBehind(t *testing.T) {
	room := slices.Concat(manyRows(5), make([]impl.Row, 10))
	other := slices.Concat(rowsOf("a", "1", "z", "2"), make([]impl.Row, 10))
	_ = impl.Changes(room[:5], other[:2])
	_ = impl.Changes(other[:2], room[:5])
	for _, r := range append(room[5:], other[2:]...) {
		if r != (impl.Row{}) {
			t.Errorf("what lies behind the rows is written to: %+v", r)
		}
	}
}
