package tests

import (
	"math/rand"
	"slices"
	"strings"
	"testing"

	"loop.example/g00378/impl"
)

func wantLog(t *testing.T, what string, got impl.OpsOut, want impl.OpsOut) {
	t.Helper()
	if !slices.Equal(got.Ops, want.Ops) || got.Many != want.Many || got.Code != want.Code {
		t.Errorf("%s: got %d ops %v, Many %d, code %d, want %d ops, Many %d, code %d",
			what, len(got.Ops), got.Ops, got.Many, got.Code, len(want.Ops), want.Many, want.Code)
	}
}

// shuffled: the same order each time the tests run.
func shuffled(l []impl.Op, seed int64) []impl.Op {
	all := slices.Clone(l)
	rand.New(rand.NewSource(seed)).Shuffle(len(all), func(i, j int) { all[i], all[j] = all[j], all[i] })
	return all
}

func TestLogOfWhateverOrder(t *testing.T) {
	for _, many := range []int{0, 1, 2, 3, 10, 77, impl.MaxOps} {
		all := manyOps(many)
		for seed := range int64(5) {
			l := shuffled(all, seed)
			got := impl.LogAdd(nil, l)
			wantLog(t, "all at once", got, impl.OpsOut{Ops: all, Many: int64(many)})
			wantLog(t, "all once more", impl.LogAdd(got.Ops, l), impl.OpsOut{Ops: all})
			for _, cut := range []int{1, many / 3, many / 2, many - 1} {
				if cut < 0 || cut > many {
					continue
				}
				first := impl.LogAdd(nil, l[:cut])
				wantLog(t, "in two parts", impl.LogAdd(first.Ops, l[cut:]), impl.OpsOut{Ops: all, Many: int64(many - cut)})
				wantLog(t, "a part, then all", impl.LogAdd(first.Ops, l), impl.OpsOut{Ops: all, Many: int64(many - cut)})
				wantLog(t, "all, then a part", impl.LogAdd(all, l[cut:]), impl.OpsOut{Ops: all})
			}
		}
	}
}

func TestLogOneByOne(t *testing.T) {
	all := manyOps(60)
	for seed := range int64(5) {
		var log []impl.Op
		for i, o := range shuffled(all, seed) {
			got := impl.LogAdd(log, []impl.Op{o})
			if got.Code != impl.OK || got.Many != 1 || len(got.Ops) != i+1 {
				t.Fatalf("one more: got %+v", got)
			}
			log = got.Ops
			wantLog(t, "it once more", impl.LogAdd(log, []impl.Op{o}), impl.OpsOut{Ops: log})
			wantLog(t, "nothing", impl.LogAdd(log, nil), impl.OpsOut{Ops: log})
		}
		wantLog(t, "all of them", impl.LogAdd(log, nil), impl.OpsOut{Ops: all})
	}
}

func TestOrderOfStamps(t *testing.T) {
	l := []impl.Op{moveOp(1, 2, 2, 0, "z"), moveOp(2, 1, 2, 0, "y"), moveOp(2, 50, 9, 0, "x"), moveOp(3, 1, 2, 0, "a"), moveOp(10, 1, 2, 0, "a")}
	slices.Reverse(l)
	got := impl.LogAdd(nil, l)
	slices.Reverse(l)
	wantLog(t, "by time, then by replica", got, impl.OpsOut{Ops: l, Many: 5})
	wantLog(t, "between", impl.LogAdd([]impl.Op{l[0], l[2], l[4]}, []impl.Op{l[3], l[2], l[1]}), impl.OpsOut{Ops: l, Many: 2})
}

func TestLogThatIsNone(t *testing.T) {
	a, b := moveOp(1, 1, 2, 0, "x"), moveOp(1, 2, 3, 0, "y")
	form := impl.OpsOut{Code: impl.ErrForm}
	wantLog(t, "a log that falls", impl.LogAdd([]impl.Op{b, a}, nil), form)
	wantLog(t, "a log that falls by time", impl.LogAdd([]impl.Op{moveOp(2, 1, 2, 0, "x"), b}, nil), form)
	wantLog(t, "a log that stands", impl.LogAdd([]impl.Op{a, a}, nil), form)
	wantLog(t, "a log of one stamp", impl.LogAdd([]impl.Op{a, setOp(1, 1, 2, "k", "")}, nil), form)
	wantLog(t, "a log with a wrong deed", impl.LogAdd([]impl.Op{a, {}}, nil), form)
	wantLog(t, "a log of a wrong deed", impl.LogAdd([]impl.Op{{}}, []impl.Op{a}), form)
	wantLog(t, "a log of too many", impl.LogAdd(manyOps(impl.MaxOps+1), nil), form)
	wantLog(t, "more with a wrong one", impl.LogAdd(nil, []impl.Op{a, setOp(2, 1, 2, "k", strings.Repeat("v", 41))}), form)
	wantLog(t, "more, one alike twice", impl.LogAdd(nil, []impl.Op{a, a}), form)
	wantLog(t, "more of one stamp", impl.LogAdd(nil, []impl.Op{a, b, setOp(1, 1, 2, "k", "")}), form)
	wantLog(t, "more, twice what is there", impl.LogAdd([]impl.Op{a}, []impl.Op{a, a}), form)
	wantLog(t, "too many more", impl.LogAdd(nil, manyOps(impl.MaxOps+1)), form)
	wantLog(t, "more in any order", impl.LogAdd(nil, []impl.Op{b, a}), impl.OpsOut{Ops: []impl.Op{a, b}, Many: 2})
}

func TestAnotherDeedOfAStamp(t *testing.T) {
	there := impl.OpsOut{Code: impl.ErrThere}
	o := setOp(5, 2, 7, "k", "v")
	others := []impl.Op{moveOp(5, 2, 7, 0, "k"), setOp(5, 2, 8, "k", "v"), setOp(5, 2, 7, "l", "v"), setOp(5, 2, 7, "k", "w"), setOp(5, 2, 7, "k", "")}
	for _, other := range others {
		wantLog(t, "alone", impl.LogAdd([]impl.Op{o}, []impl.Op{other}), there)
		wantLog(t, "the other way", impl.LogAdd([]impl.Op{other}, []impl.Op{o}), there)
		log := []impl.Op{moveOp(4, 2, 7, 0, "a"), moveOp(5, 1, 7, 0, "a"), o, moveOp(5, 3, 7, 0, "a")}
		more := []impl.Op{moveOp(9, 9, 9, 0, "a"), other, moveOp(1, 1, 2, 0, "a")}
		wantLog(t, "among others", impl.LogAdd(log, more), there)
	}
	a, b := moveOp(5, 2, 7, 3, "a"), moveOp(5, 2, 7, 4, "a")
	wantLog(t, "another parent", impl.LogAdd([]impl.Op{a}, []impl.Op{b}), there)
}

func TestFullLog(t *testing.T) {
	most := manyOps(impl.MaxOps)
	another := most[0]
	another.Name = "another"
	beyond := moveOp(900, 1, 2, 0, "x")
	full := impl.OpsOut{Code: impl.ErrFull}
	wantLog(t, "the last one", impl.LogAdd(most[:impl.MaxOps-1], most[impl.MaxOps-1:]), impl.OpsOut{Ops: most, Many: 1})
	wantLog(t, "the last one, and known ones", impl.LogAdd(most[1:], most), impl.OpsOut{Ops: most, Many: 1})
	wantLog(t, "one beyond", impl.LogAdd(most, []impl.Op{beyond}), full)
	wantLog(t, "one beyond, and known ones", impl.LogAdd(most, append([]impl.Op{beyond}, most[1:]...)), full)
	wantLog(t, "many beyond", impl.LogAdd(most[:1], append([]impl.Op{beyond}, most[1:]...)), full)
	wantLog(t, "all of them there", impl.LogAdd(most, shuffled(most, 1)), impl.OpsOut{Ops: most})
	wantLog(t, "none", impl.LogAdd(most, nil), impl.OpsOut{Ops: most})
	wantLog(t, "too many, and another of a stamp", impl.LogAdd(most, []impl.Op{beyond, another}), impl.OpsOut{Code: impl.ErrThere})
	wantLog(t, "another of the last stamp, behind too many", impl.LogAdd(most, []impl.Op{moveOp(1, 9, 2, 0, "x"), moveOp(50, 3, 9, 0, "x")}), impl.OpsOut{Code: impl.ErrThere})
	wantLog(t, "too many, and a wrong one", impl.LogAdd(most, []impl.Op{beyond, {}}), impl.OpsOut{Code: impl.ErrForm})
	wantLog(t, "another of a stamp, and a wrong one", impl.LogAdd(most, []impl.Op{another, {}}), impl.OpsOut{Code: impl.ErrForm})
}

func TestGreatLists(t *testing.T) {
	size := impl.OpsOut{Code: impl.ErrSize}
	great := make([]impl.Op, impl.MaxList+1)
	falling := manyOps(2)
	slices.Reverse(falling)
	wantLog(t, "a great log", impl.LogAdd(great, nil), size)
	wantLog(t, "great more", impl.LogAdd(nil, great), size)
	wantLog(t, "both", impl.LogAdd(great, great), size)
	wantLog(t, "a log that falls, and great more", impl.LogAdd(falling, great), size)
	wantLog(t, "a great log, and wrong more", impl.LogAdd(manyOps(impl.MaxList+1), []impl.Op{{}}), size)
	wantLog(t, "a log of MaxList", impl.LogAdd(manyOps(impl.MaxList), nil), impl.OpsOut{Code: impl.ErrForm})
	wantLog(t, "more of MaxList", impl.LogAdd(nil, manyOps(impl.MaxList)), impl.OpsOut{Code: impl.ErrForm})
}

func TestHandedInIsAsItWas(t *testing.T) {
	all := manyOps(40)
	for cut := range len(all) + 1 {
		// Free capacity behind a list is its owner's.
		room := slices.Clone(all)
		log, more := room[:cut], shuffled(all, int64(cut))
		moreWas := slices.Clone(more)
		impl.LogAdd(log, more)
		impl.OpsRight(more)
		impl.OpsBytes(more)
		if !slices.Equal(room, all) || !slices.Equal(more, moreWas) {
			t.Fatalf("cut at %d: a list is not as it was", cut)
		}
	}
}

func TestToldLogIsNewMemory(t *testing.T) {
	all := manyOps(20)
	for _, c := range []struct{ log, more []impl.Op }{{all, nil}, {nil, all}, {all, all}, {all[:10], all[10:]}, {all[10:], all[:10]}} {
		logWas, moreWas := slices.Clone(c.log), slices.Clone(c.more)
		got := impl.LogAdd(c.log, c.more).Ops
		for i := range got {
			for _, o := range all {
				if sharesMemory(o.Name, got[i].Name) || sharesMemory(o.Value, got[i].Value) {
					t.Fatal("a text of the log shares memory")
				}
			}
			got[i] = impl.Op{}
		}
		_ = append(got[:0], make([]impl.Op, cap(got))...)
		if !slices.Equal(c.log, logWas) || !slices.Equal(c.more, moreWas) {
			t.Fatal("who writes to what is told writes to what was handed in")
		}
	}
}
