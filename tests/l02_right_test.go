package tests

import (
	"math"
	"strings"
	"testing"

	"loop.example/g00378/impl"
)

func moveOp(time, replica, node, parent int64, name string) impl.Op {
	return impl.Op{Time: time, Replica: replica, Kind: impl.OpMove, Node: node, Parent: parent, Name: name}
}

func setOp(time, replica, node int64, key, value string) impl.Op {
	return impl.Op{Time: time, Replica: replica, Kind: impl.OpSet, Node: node, Name: key, Value: value}
}

// manyOps: right ones of rising stamps, moves and sets, several replicas of
// one time.
func manyOps(many int) []impl.Op {
	l := []impl.Op{}
	for i := range many {
		time, replica := int64(i/3+1), int64(i%3+1)
		if i%2 == 0 {
			l = append(l, moveOp(time, replica, int64(i+2), int64(i/2), "n"+strings.Repeat("_", i%20)))
		} else {
			l = append(l, setOp(time, replica, int64(i+1), "k", strings.Repeat("\xff", i%41)))
		}
	}
	return l
}

func wantOp(t *testing.T, o impl.Op, want bool) {
	t.Helper()
	if got := impl.OpRight(o); got != want {
		t.Errorf("OpRight(%+v): got %v, want %v", o, got, want)
	}
	if got := impl.OpsRight([]impl.Op{o}); got != want {
		t.Errorf("OpsRight of %+v alone: got %v, want %v", o, got, want)
	}
}

func wantOps(t *testing.T, what string, l []impl.Op, want bool) {
	t.Helper()
	if got := impl.OpsRight(l); got != want {
		t.Errorf("OpsRight of %s: got %v, want %v", what, got, want)
	}
}

// numberCase: a number, and whether a deed is right with it in some field.
type numberCase struct {
	n    int64
	want bool
}

func TestBoundsOfBothKinds(t *testing.T) {
	for _, o := range []impl.Op{moveOp(5, 5, 5, 5, "a"), setOp(5, 5, 5, "a", "b")} {
		wantOp(t, o, true)
		for _, c := range []numberCase{{math.MinInt64, false}, {-1, false}, {0, false}, {1, true}, {impl.MaxTime, true}, {impl.MaxTime + 1, false}, {math.MaxInt64, false}} {
			with := o
			with.Time = c.n
			wantOp(t, with, c.want)
		}
		for _, c := range []numberCase{{math.MinInt64, false}, {-1, false}, {0, false}, {1, true}, {50, true}, {51, false}, {math.MaxInt64, false}} {
			with := o
			with.Replica = c.n
			wantOp(t, with, c.want)
		}
		for _, c := range []numberCase{{math.MinInt64, false}, {-1, false}, {0, false}, {1, false}, {2, true}, {impl.MaxTime, true}, {impl.MaxTime + 1, false}, {math.MaxInt64, false}} {
			with := o
			with.Node = c.n
			wantOp(t, with, c.want)
		}
		for _, kind := range []int64{math.MinInt64, -1, 0, 3, math.MaxInt64} {
			with := o
			with.Kind, with.Parent, with.Value = kind, 0, ""
			wantOp(t, with, false)
		}
	}
}

func TestParents(t *testing.T) {
	for _, c := range []numberCase{{math.MinInt64, false}, {-1, false}, {0, true}, {1, true}, {2, true}, {7, true}, {impl.MaxTime, true}, {impl.MaxTime + 1, false}, {math.MaxInt64, false}} {
		wantOp(t, moveOp(1, 1, 7, c.n, "a"), c.want)
	}
	for _, parent := range []int64{math.MinInt64, -1, 1, 2, impl.MaxTime, math.MaxInt64} {
		o := setOp(1, 1, 7, "k", "v")
		o.Parent = parent
		wantOp(t, o, false)
	}
}

func TestNamesOfDeeds(t *testing.T) {
	names := map[string]bool{
		"": false, "a": true, "a_9": true, "_a": false, "9": false, "A": false, "a b": false, "ä": false,
		strings.Repeat("z", 20):              true,
		strings.Repeat("z", 21):              false,
		strings.Repeat("z", impl.MaxBytes+1): false,
	}
	for name, want := range names {
		wantOp(t, moveOp(1, 1, 2, 0, name), want)
		wantOp(t, setOp(1, 1, 2, name, "v"), want)
	}
}

func TestValues(t *testing.T) {
	for _, value := range []string{"v", "\x00", strings.Repeat("v", 40)} {
		o := moveOp(1, 1, 2, 0, "a")
		o.Value = value
		wantOp(t, o, false)
	}
	for size := range 41 {
		wantOp(t, setOp(1, 1, 2, "k", strings.Repeat("\xff", size)), true)
	}
	for _, size := range []int{41, 42, 80, impl.MaxBytes + 1} {
		wantOp(t, setOp(1, 1, 2, "k", strings.Repeat("v", size)), false)
	}
	wantOp(t, impl.Op{}, false)
}

func TestHowManyDeeds(t *testing.T) {
	for _, many := range []int{0, 1, 2, impl.MaxOps - 1, impl.MaxOps} {
		wantOps(t, "deeds that are right", manyOps(many), true)
	}
	wantOps(t, "no list", nil, true)
	for _, many := range []int{impl.MaxOps + 1, impl.MaxList, impl.MaxList + 1} {
		wantOps(t, "too many", manyOps(many), false)
	}
}

func TestDeedsInAnyOrder(t *testing.T) {
	l := manyOps(impl.MaxOps)
	for i := range l {
		l[i], l[i*7%len(l)] = l[i*7%len(l)], l[i]
	}
	wantOps(t, "deeds out of order", l, true)
	for _, at := range []int{0, 1, 70, impl.MaxOps - 1} {
		wrong := append([]impl.Op{}, l...)
		wrong[at].Name = ""
		wantOps(t, "deeds with a wrong one among them", wrong, false)
	}
}

func TestOneStampTwice(t *testing.T) {
	a := moveOp(5, 2, 7, 0, "a")
	another := setOp(5, 2, 8, "k", "v")
	between := []impl.Op{moveOp(4, 2, 7, 0, "a"), moveOp(5, 1, 7, 0, "a"), moveOp(5, 3, 7, 0, "a"), moveOp(6, 2, 7, 0, "a")}
	wantOps(t, "one alike twice", []impl.Op{a, a}, false)
	wantOps(t, "two of one stamp", []impl.Op{a, another}, false)
	wantOps(t, "neighbours of a stamp", append([]impl.Op{a}, between...), true)
	far := append([]impl.Op{a}, between...)
	wantOps(t, "one alike, with others between", append(far, a), false)
	wantOps(t, "two of one stamp, with others between", append(far, another), false)
	most := manyOps(impl.MaxOps)
	most[impl.MaxOps-1] = most[0]
	wantOps(t, "first and last of MaxOps alike", most, false)
}
