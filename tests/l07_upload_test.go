package tests

import (
	"fmt"
	"math"
	"slices"
	"testing"

	"loop.example/g00378/impl"
)

// lateOps: so many of a replica, of Times from one on, each later than those of
// manyOps if that is above 50.
func lateOps(replica, time int64, many int) []impl.Op {
	var l []impl.Op
	for i := range int64(many) {
		l = append(l, moveOp(time+i, replica, 2+i, 0, "late"))
	}
	return l
}

// grown: the server with these put behind its others.
func grown(s impl.Server, l []impl.Op) impl.Server {
	return serverOf(slices.Concat(s.Ops, l))
}

func TestUploadOfNewOnes(t *testing.T) {
	s := midServer() // ten of each of 1 to 3, the last Time is 10
	for replica := int64(1); replica <= 3; replica++ {
		for _, many := range []int{1, 2, 5, 40} {
			l := lateOps(replica, 11, many)
			wantUploaded(t, "new ones", s, replica, 10, l, impl.ServerOut{Server: grown(s, l), Many: int64(10 + many)})
		}
	}
	last := []impl.Op{moveOp(impl.MaxTime, 2, 2, impl.MaxTime, "a")}
	wantUploaded(t, "the last Time", s, 2, 10, last, impl.ServerOut{Server: grown(s, last), Many: 11})
}

// The first of a replica find their place in Seen by its number.
func TestUploadOfTheFirstOfAReplica(t *testing.T) {
	between := serverOf(append(lateOps(9, 500, 3), lateOps(5, 700, 2)...))
	for _, replica := range []int64{1, 4, 6, 8, 10, 50} {
		l := lateOps(replica, 1, 2)
		want := impl.ServerOut{Server: grown(between, l), Many: 2}
		got := wantUploaded(t, "the first ones", between, replica, 0, l, want)
		if len(got.Server.Seen) != 3 || !slices.Contains(got.Server.Seen, impl.Seen{Replica: replica, Many: 2}) {
			t.Errorf("the first of %d: Seen is %v", replica, got.Server.Seen)
		}
		wantUploaded(t, "the first ones, from 1", between, replica, 1, l, impl.ServerOut{Code: impl.ErrRange})
		wantUploaded(t, "to an empty server", impl.Server{}, replica, 0, l, impl.ServerOut{Server: serverOf(l), Many: 2})
	}
}

func TestUploadOfNone(t *testing.T) {
	s := midServer()
	for from := range int64(11) {
		wantUploaded(t, "none", s, 2, from, nil, impl.ServerOut{Server: s, Many: 10})
	}
	wantUploaded(t, "none", s, 2, 11, nil, impl.ServerOut{Many: 10, Code: impl.ErrRange})
	wantUploaded(t, "none, of one that is not Seen", s, 4, 0, nil, impl.ServerOut{Server: s})
	wantUploaded(t, "none, of one that is not Seen", s, 4, 1, nil, impl.ServerOut{Code: impl.ErrRange})
	wantUploaded(t, "none, to an empty server", impl.Server{}, 1, 0, []impl.Op{}, impl.ServerOut{})
	if got := impl.Upload(s, 2, 3, nil); !sameServer(got.Server, s) || got.Many != 10 || got.Code != impl.OK {
		t.Errorf("no list: %+v", got)
	}
}

// Whatever was sent up is sent once more, from each place, as far as each.
func TestUploadOnceMore(t *testing.T) {
	all := lateOps(2, 1, 12)
	others := mixed(byReplica(manyOps(30), 1), 3)
	for many := range 11 {
		s := serverOf(append(slices.Clone(others), all[:many]...))
		for from := range many + 1 {
			for to := from; to <= len(all); to++ {
				fresh := all[many:max(many, to)]
				want := impl.ServerOut{Server: grown(s, fresh), Many: int64(many + len(fresh))}
				wantUploaded(t, fmt.Sprint(many, " are there"), s, 2, int64(from), all[from:to], want)
			}
		}
	}
}

// What has the places of those that were seen is not looked at.
func TestWhatWasSeenIsNotAskedFor(t *testing.T) {
	s := midServer()
	others := lateOps(2, 900, 4)
	wantUploaded(t, "others of places that were seen", s, 2, 0, others, impl.ServerOut{Server: s, Many: 10})
	wantUploaded(t, "others of the last places", s, 2, 6, others, impl.ServerOut{Server: s, Many: 10})
	wantUploaded(t, "one of them is new", s, 2, 7, others, impl.ServerOut{Server: grown(s, others[3:]), Many: 11})
	wantUploaded(t, "all but one are new", s, 2, 9, others, impl.ServerOut{Server: grown(s, others[1:]), Many: 13})
	early := lateOps(2, 1, 10)
	full := serverOf(mixed(manyOps(impl.MaxOps), 4))
	wantUploaded(t, "a full server, early ones of places that were seen", full, 2, 40, early, impl.ServerOut{Server: full, Many: 50})
	// But they must be right, and of the replica, and rise, as all must.
	for what, wrong := range wrongSent() {
		wantUploaded(t, what+", all were seen", s, 2, 0, wrong, deniedByHand(impl.ErrForm))
	}
}

func TestPlacesOfUpload(t *testing.T) {
	s := midServer()
	l := lateOps(2, 11, 2)
	for _, c := range []struct {
		from, code int64
	}{
		{math.MinInt64, impl.ErrForm}, {-10, impl.ErrForm}, {-1, impl.ErrForm},
		{0, impl.OK}, {8, impl.OK}, {9, impl.OK}, {10, impl.OK},
		{11, impl.ErrRange}, {12, impl.ErrRange}, {30, impl.ErrRange}, {31, impl.ErrRange}, {impl.MaxTime, impl.ErrRange}, {math.MaxInt64, impl.ErrRange},
	} {
		for _, l := range [][]impl.Op{l, nil} {
			want := uploadByHand(s, 2, c.from, l)
			if want.Code != c.code {
				t.Fatalf("by hand from %d: %d, want %d", c.from, want.Code, c.code)
			}
			wantUploaded(t, "two new ones", s, 2, c.from, l, want)
		}
	}
	// Many is that of the replica, not of another, nor how many are there.
	uneven := serverOf(slices.Concat(lateOps(1, 1, 4), lateOps(2, 1, 3), lateOps(7, 1, 1)))
	for replica, many := range map[int64]int64{1: 4, 2: 3, 3: 0, 7: 1, 8: 0, 50: 0} {
		for _, from := range []int64{many + 1, many + 2, 8, 150, math.MaxInt64} {
			wantUploaded(t, "beyond what was seen", uneven, replica, from, lateOps(replica, 90, 1), impl.ServerOut{Many: many, Code: impl.ErrRange})
		}
	}
}

func TestStampsOfUpload(t *testing.T) {
	s := serverOf(slices.Concat(lateOps(1, 40, 3), lateOps(2, 20, 3), lateOps(3, 30, 3))) // 2 ends at 22
	there := deniedByHand(impl.ErrThere)
	for _, time := range []int64{1, 19, 20, 21, 22} {
		wantUploaded(t, "a stamp that is not above", s, 2, 3, lateOps(2, time, 1), there)
		wantUploaded(t, "the first one is not above", s, 2, 3, lateOps(2, time, 9), there)
	}
	for _, time := range []int64{1, 20, 21} {
		wantUploaded(t, "behind one that was seen, not above", s, 2, 2, lateOps(2, time, 2), there)
	}
	wantUploaded(t, "behind one that was seen, above", s, 2, 2, lateOps(2, 22, 2), impl.ServerOut{Server: grown(s, lateOps(2, 22, 2)[1:]), Many: 4})
	for _, time := range []int64{23, 24, 30, 40, 43, impl.MaxTime} {
		l := []impl.Op{setOp(time, 2, 2, "k", "v")}
		wantUploaded(t, "a stamp that is above", s, 2, 3, l, impl.ServerOut{Server: grown(s, l), Many: 4})
	}
	// The last one there once more, from behind it: not a new one.
	wantUploaded(t, "the last one, as a new one", s, 2, 3, s.Ops[5:6], there)
	wantUploaded(t, "all, as new ones", s, 2, 3, s.Ops[3:6], there)
}

func TestUploadAtMaxOps(t *testing.T) {
	for _, many := range []int{impl.MaxOps - 2, impl.MaxOps - 1, impl.MaxOps} {
		s := serverOf(mixed(manyOps(many), 5))
		for _, replica := range []int64{2, 4} {
			n := int64(len(byReplica(s.Ops, replica)))
			for more := range 4 {
				l := lateOps(replica, 60, more)
				want := impl.ServerOut{Server: grown(s, l), Many: n + int64(more)}
				if many+more > impl.MaxOps {
					want = deniedByHand(impl.ErrFull)
				}
				wantUploaded(t, fmt.Sprint("to ", many), s, replica, n, l, want)
				known := byReplica(s.Ops, replica)
				wantUploaded(t, fmt.Sprint("with those that were seen, to ", many), s, replica, 0, append(known, l...), want)
			}
		}
	}
	all := lateOps(50, 1, impl.MaxOps)
	got := wantUploaded(t, "all at once", impl.Server{}, 50, 0, all, impl.ServerOut{Server: serverOf(all), Many: impl.MaxOps})
	wantUploaded(t, "one more", got.Server, 50, impl.MaxOps, lateOps(50, 500, 1), deniedByHand(impl.ErrFull))
	wantUploaded(t, "one more, of another", got.Server, 1, 0, lateOps(1, 500, 1), deniedByHand(impl.ErrFull))
}

// wrongSent: what the replica 2 can't send up, each for one reason.
func wrongSent() map[string][]impl.Op {
	l := lateOps(2, 11, 4)
	another := slices.Clone(l)
	another[3].Replica = 3
	return map[string][]impl.Op{
		"the zero Op":              {{}},
		"a wrong one":              append(slices.Clone(l), moveOp(90, 2, 1, 0, "a")),
		"a wrong one ahead":        append([]impl.Op{moveOp(1, 2, 2, 0, "A")}, l...),
		"one twice":                {l[0], l[0]},
		"two of one stamp":         {l[0], setOp(11, 2, 2, "k", "v")},
		"the last one of another":  another,
		"the first one of another": append(lateOps(1, 1, 1), l...),
		"all of another":           lateOps(3, 11, 4),
		"stamps that fall":         {l[1], l[0]},
		"the last stamp falls":     append(slices.Clone(l), moveOp(13, 2, 2, 0, "a"))[1:],
		"one stamp falls":          {l[0], l[2], l[1], l[3]},
		"one more than MaxOps":     lateOps(2, 11, impl.MaxOps+1),
		"MaxList":                  lateOps(2, 11, impl.MaxList),
	}
}

func TestUploadOfWrongLists(t *testing.T) {
	s := midServer()
	for what, l := range wrongSent() {
		for _, from := range []int64{math.MinInt64, -1, 0, 9, 10, 11, math.MaxInt64} {
			wantUploaded(t, what, s, 2, from, l, deniedByHand(impl.ErrForm))
		}
		wantUploaded(t, what+", to an empty server", impl.Server{}, 2, 0, l, deniedByHand(impl.ErrForm))
	}
	for _, many := range []int{impl.MaxList + 1, 1000} {
		great := lateOps(2, 11, many)
		wantUploaded(t, "too long a list", s, 2, 10, great, deniedByHand(impl.ErrSize))
		wantUploaded(t, "too long a list, all else wrong", s, 0, -1, make([]impl.Op, many), deniedByHand(impl.ErrSize))
		for what, wrong := range wrongServers() {
			wantUploaded(t, what+", too long a list", wrong, 2, 10, great, deniedByHand(impl.ErrSize))
		}
	}
}

func TestUploadOfWrongReplicas(t *testing.T) {
	for _, s := range []impl.Server{{}, midServer()} {
		for _, replica := range []int64{math.MinInt64, -1, 0, 51, 52, math.MaxInt64} {
			for _, from := range []int64{-1, 0, 1} {
				wantUploaded(t, "none, of a wrong replica", s, replica, from, nil, deniedByHand(impl.ErrForm))
				wantUploaded(t, "one of its own", s, replica, from, lateOps(replica, 11, 1), deniedByHand(impl.ErrForm))
				wantUploaded(t, "one of another", s, replica, from, lateOps(2, 11, 1), deniedByHand(impl.ErrForm))
			}
		}
	}
}

func TestUploadToWrongServers(t *testing.T) {
	for what, s := range wrongServers() {
		for _, from := range []int64{-1, 0, 1, 10, math.MaxInt64} {
			for _, l := range [][]impl.Op{nil, lateOps(2, 1, 1), lateOps(2, 900, 2), {{}}} {
				wantUploaded(t, what, s, 2, from, l, deniedByHand(impl.ErrForm))
			}
		}
	}
}

// All faults of Upload together, whichever: the first is told, and Many beside
// ErrRange alone.
func TestFaultsOfUploadInOrder(t *testing.T) {
	faults := []fault{
		{"too long a list", impl.ErrSize}, {"a wrong server", impl.ErrForm}, {"a wrong Op", impl.ErrForm}, {"a wrong replica", impl.ErrForm},
		{"one of another", impl.ErrForm}, {"a stamp falls", impl.ErrForm}, {"from below 0", impl.ErrForm},
		{"from above Many", impl.ErrRange}, {"not above the last", impl.ErrThere}, {"a full server", impl.ErrFull},
	}
	for chosen := 1; chosen < 1<<len(faults); chosen++ {
		code, what := firstOf(faults, chosen)
		is := func(i int) bool { return chosen&(1<<i) != 0 }
		if is(6) && is(7) {
			continue // no place is both
		}
		all, replica := 30, int64(2)
		if is(9) {
			all = impl.MaxOps
		}
		s := serverOf(mixed(manyOps(all), 6))
		n := int64(all / 3)
		from, l := n, lateOps(2, 500, 2)
		if is(8) {
			l = append(byReplica(s.Ops, 2)[n-1:], l...)
		}
		if is(7) {
			from = n + 1
		}
		if is(6) {
			from = -1
		}
		if is(5) {
			l = append(l, moveOp(499, 2, 2, 0, "a"))
		}
		if is(4) {
			l = append(l, moveOp(600, 3, 2, 0, "a"))
		}
		if is(3) {
			replica = 51
		}
		if is(2) {
			l = append(l, moveOp(700, 2, 0, 0, "a"))
		}
		if is(1) {
			s.Seen[2].Many++
		}
		if is(0) {
			l = append(l, make([]impl.Op, impl.MaxList)...)
		}
		want := deniedByHand(code)
		if code == impl.ErrRange {
			want.Many = n
		}
		wantUploaded(t, what, s, replica, from, l, want)
	}
}
