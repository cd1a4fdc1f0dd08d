package tests

import (
	"fmt"
	"math"
	"slices"
	"testing"

	"loop.example/g00378/impl"
)

// serverOps: as many of a server's, of the replicas 1 to 3 at Times of their
// own each; a client of 7 has none of them.
func serverOps(many int) []impl.Op {
	var l []impl.Op
	for i := range many {
		l = append(l, moveOp(int64(100+i*7%many), int64(i%3+1), int64(i+2), 0, "s"))
	}
	return l
}

// takenClient: one with some of the server's first ones.
func takenClient(t *testing.T, many int) impl.Client {
	t.Helper()
	got := impl.Take(impl.ClientNew(7), 0, serverOps(40)[:many])
	if got.Code != impl.OK || got.Client.Got != int64(many) {
		t.Fatalf("Take of %d: %+v", many, got)
	}
	return got.Client
}

func TestTakeOfOne(t *testing.T) {
	c := midClient() // Got is 12, Clock 10
	for _, s := range []struct {
		o     impl.Op
		place int // in the Log
		clock int64
	}{
		{moveOp(1, 9, 2, 0, "a"), 3, 10},
		{moveOp(10, 4, 2, 0, "a"), 30, 10},
		{moveOp(11, 1, 2, 0, "a"), 30, 11},
		{setOp(500, 50, 900, "k", "v"), 30, 500},
		{moveOp(impl.MaxTime, 1, 2, 99, "a"), 30, impl.MaxTime},
	} {
		want := impl.ClientOut{Many: 1, Client: changed(c, func(c *impl.Client) {
			c.Log, c.Clock, c.Got = slices.Insert(c.Log, s.place, s.o), s.clock, 13
		})}
		wantTaken(t, "a new one", c, 12, []impl.Op{s.o}, want)
	}
	for _, o := range c.Log {
		want := impl.ClientOut{Client: changed(c, func(c *impl.Client) { c.Got = 13 })}
		wantTaken(t, fmt.Sprintf("one that is there, %+v", o), c, 12, []impl.Op{o}, want)
	}
}

// The Clock stands above what comes: it does not fall.
func TestTakeOfEarlierTimes(t *testing.T) {
	c := changed(midClient(), func(c *impl.Client) { c.Clock = 300 })
	for _, time := range []int64{1, 299, 300} {
		got := wantTaken(t, "an earlier Time", c, 12, []impl.Op{moveOp(time, 8, 2, 0, "a")}, takeByHand(c, 12, []impl.Op{moveOp(time, 8, 2, 0, "a")}))
		if got.Client.Clock != 300 || got.Client.Got != 13 || got.Many != 1 {
			t.Errorf("at 300 came %d: %d, Got %d, Many %d", time, got.Client.Clock, got.Client.Got, got.Many)
		}
	}
}

// Whatever was taken is asked for once more, from each place, as far as each.
func TestTakeOnceMore(t *testing.T) {
	all := serverOps(40)
	for got := range 21 {
		c := takenClient(t, got)
		for from := range got + 1 {
			for _, to := range []int{from, from + 1, got - 1, got, got + 1, 30, 40} {
				if to < from {
					continue
				}
				told := wantTaken(t, fmt.Sprint(got, " were taken"), c, int64(from), all[from:to], takeByHand(c, int64(from), all[from:to]))
				fresh := max(0, to-got)
				if told.Code != impl.OK || told.Many != int64(fresh) || told.Client.Got != int64(max(got, to)) || len(told.Client.Log) != max(got, to) {
					t.Fatalf("%d of %d to %d: code %d, Many %d, Got %d", got, from, to, told.Code, told.Many, told.Client.Got)
				}
				if fresh > 0 && !sameClient(told.Client, takenClient(t, to)) {
					t.Fatalf("%d, and %d to %d: not as all at once", got, from, to)
				}
			}
		}
	}
}

// What lies ahead of Got is not put to the client, whatever it is.
func TestWhatWasTakenIsNotAskedFor(t *testing.T) {
	c := midClient()
	odd := []impl.Op{moveOp(900, 2, 9, 0, "own"), setOp(1, 1, 2, "k", "another"), moveOp(901, 9, 9, 0, "late")}
	wantTaken(t, "all ahead of Got", c, 9, odd, impl.ClientOut{Client: c})
	wantTaken(t, "far ahead of Got", c, 0, odd, impl.ClientOut{Client: c})
	last := moveOp(50, 9, 9, 0, "new")
	want := takeByHand(c, 12, []impl.Op{last})
	if want.Client.Clock != 50 || want.Many != 1 {
		t.Fatalf("by hand: %+v", want)
	}
	wantTaken(t, "the last one is new", c, 9, append(odd, last), want)
	full := changed(clientOf(1, manyOps(impl.MaxOps), 5), func(c *impl.Client) { c.Got = 3 })
	wantTaken(t, "a full Log, all ahead of Got", full, 0, odd, impl.ClientOut{Client: full})
	// But they must be right, as all must.
	for _, wrong := range [][]impl.Op{{{}}, {odd[0], odd[0]}, {moveOp(1, 1, 1, 0, "a")}} {
		wantTaken(t, "wrong ones ahead of Got", c, 0, wrong, refusedByHand(impl.ErrForm))
	}
}

func TestTakeOfNone(t *testing.T) {
	c := midClient()
	for from := range int64(13) {
		wantTaken(t, "none", c, from, nil, impl.ClientOut{Client: c})
	}
	if got := impl.Take(c, 12, nil); !sameClient(got.Client, c) || got.Code != impl.OK || got.Many != 0 {
		t.Errorf("no list: %+v", got)
	}
}

func TestPlacesOfTake(t *testing.T) {
	o := []impl.Op{moveOp(50, 9, 9, 0, "new")}
	for _, c := range []struct {
		got, from int64
		many      int
		code      int64
	}{
		{12, math.MinInt64, 1, impl.ErrForm}, {12, -1, 1, impl.ErrForm}, {12, -1, 0, impl.ErrForm}, {0, -1, 1, impl.ErrForm},
		{12, 0, 1, impl.OK}, {12, 11, 1, impl.OK}, {12, 12, 1, impl.OK}, {0, 0, 1, impl.OK},
		{12, 13, 1, impl.ErrRange}, {12, 13, 0, impl.ErrRange}, {0, 1, 0, impl.ErrRange}, {12, impl.MaxTime, 0, impl.ErrRange}, {12, math.MaxInt64, 1, impl.ErrRange}, {impl.MaxTime, math.MaxInt64, 1, impl.ErrRange},
		{impl.MaxTime, impl.MaxTime, 0, impl.OK}, {impl.MaxTime, impl.MaxTime, 1, impl.ErrRange},
		{impl.MaxTime, impl.MaxTime - 1, 1, impl.OK}, {impl.MaxTime - 1, impl.MaxTime - 1, 1, impl.OK},
		{impl.MaxTime, impl.MaxTime - 1, 2, impl.ErrRange}, {impl.MaxTime, impl.MaxTime - 2, 3, impl.ErrRange}, {impl.MaxTime, impl.MaxTime - 3, 3, impl.OK},
		{impl.MaxTime - 2, impl.MaxTime - 2, 2, impl.OK}, {impl.MaxTime - 2, impl.MaxTime - 2, 3, impl.ErrRange},
		{impl.MaxTime - 1, impl.MaxTime, 0, impl.ErrRange}, {impl.MaxTime, impl.MaxTime + 1, 0, impl.ErrRange},
	} {
		client := changed(midClient(), func(client *impl.Client) { client.Got = c.got })
		l := append(o, moveOp(51, 9, 9, 0, "new"), moveOp(52, 9, 9, 0, "new"))[:c.many]
		want := takeByHand(client, c.from, l)
		if want.Code != c.code {
			t.Fatalf("by hand %d, want %d", want.Code, c.code)
		}
		told := wantTaken(t, fmt.Sprint("Got ", c.got), client, c.from, l, want)
		if end := c.from + int64(c.many); c.code == impl.OK && told.Client.Got != max(c.got, end) {
			t.Errorf("Got %d, %d from %d: Got is %d", c.got, c.many, c.from, told.Client.Got)
		}
	}
}

func TestTakeOfItsOwn(t *testing.T) {
	c := midClient()
	own := byReplica(c.Log, 2)
	got := wantTaken(t, "all of its own", c, 12, own, impl.ClientOut{Client: changed(c, func(c *impl.Client) { c.Got = 22 })})
	if got.Client.Acked != 6 || len(got.Client.Out) != 4 {
		t.Errorf("what was taken counts as acked: %d, %d", got.Client.Acked, len(got.Client.Out))
	}
	none := refusedByHand(impl.ErrNone)
	another := own[3]
	another.Name = "another"
	for what, o := range map[string]impl.Op{
		"a Time behind all":              moveOp(11, 2, 2, 0, "a"),
		"a Time far behind all":          moveOp(impl.MaxTime, 2, 2, 0, "a"),
		"another deed of a stamp of its": another,
	} {
		wantTaken(t, what, c, 12, []impl.Op{o}, none)
		wantTaken(t, what+", among known ones", c, 12, append(slices.Clone(own[:3]), o), none)
		wantTaken(t, what+", behind another deed of a stamp", c, 12, []impl.Op{setOp(1, 1, 2, "k", "x"), o}, none)
		wantTaken(t, what+", ahead of Got", c, 11, []impl.Op{o}, impl.ClientOut{Client: c})
	}
	between := clientOf(2, []impl.Op{moveOp(1, 2, 2, 0, "a"), moveOp(5, 2, 2, 0, "b")}, 1)
	wantTaken(t, "a Time between its own", between, 0, []impl.Op{moveOp(3, 2, 2, 0, "c")}, none)
	wantTaken(t, "to a new one", impl.ClientNew(2), 0, []impl.Op{moveOp(3, 2, 2, 0, "c")}, none)
}

func TestTakeOfAnotherDeedOfAStamp(t *testing.T) {
	c := midClient()
	for _, at := range []int{0, 2, 14, 29} {
		o := c.Log[at]
		for what, change := range map[string]func(o *impl.Op){
			"another Name":  func(o *impl.Op) { o.Name = "another" },
			"another Node":  func(o *impl.Op) { o.Node = 777 },
			"another Value": func(o *impl.Op) { o.Kind, o.Parent, o.Value = impl.OpSet, 0, "another" },
		} {
			other := o
			change(&other)
			code := int64(impl.ErrThere)
			if o.Replica == c.Replica {
				code = impl.ErrNone
			}
			wantTaken(t, what, c, 12, []impl.Op{other}, refusedByHand(code))
			wantTaken(t, what+", behind a new one", c, 12, []impl.Op{moveOp(70, 1, 2, 0, "a"), other}, refusedByHand(code))
		}
	}
}

func TestTakeIntoAFullLog(t *testing.T) {
	late := moveOp(900, 8, 2, 0, "a")
	for _, many := range []int{impl.MaxOps - 2, impl.MaxOps - 1, impl.MaxOps} {
		c := clientOf(1, manyOps(many), 5)
		l := append(manyOps(3), late, moveOp(901, 8, 2, 0, "a"))
		want := refusedByHand(impl.ErrFull)
		if many == impl.MaxOps-2 {
			want = takeByHand(c, 0, l)
		}
		wantTaken(t, fmt.Sprint("two new ones to ", many), c, 0, l, want)
		known := changed(c, func(c *impl.Client) { c.Got = 3 })
		wantTaken(t, fmt.Sprint("known ones to ", many), c, 0, manyOps(3), impl.ClientOut{Client: known})
	}
	got := wantTaken(t, "all at once", impl.ClientNew(7), 0, manyOps(impl.MaxOps), takeByHand(impl.ClientNew(7), 0, manyOps(impl.MaxOps)))
	if got.Many != impl.MaxOps || got.Client.Got != impl.MaxOps {
		t.Errorf("all at once: Many %d, Got %d", got.Many, got.Client.Got)
	}
}

func TestTakeOfWrongLists(t *testing.T) {
	c := midClient()
	for what, l := range map[string][]impl.Op{
		"the zero Op":          {{}},
		"a wrong one behind":   append(serverOps(5), moveOp(1, 1, 1, 0, "a")),
		"one twice":            {moveOp(50, 9, 2, 0, "a"), moveOp(50, 9, 2, 0, "a")},
		"two of one stamp":     {moveOp(50, 9, 2, 0, "a"), moveOp(50, 9, 3, 0, "a")},
		"one more than MaxOps": manyOps(impl.MaxOps + 1),
		"MaxList":              manyOps(impl.MaxList),
	} {
		for _, from := range []int64{-1, 0, 12, 13, impl.MaxTime, math.MaxInt64} {
			wantTaken(t, what, c, from, l, refusedByHand(impl.ErrForm))
		}
	}
	for _, many := range []int{impl.MaxList + 1, 1000} {
		wantTaken(t, "too long a list", c, 12, manyOps(many), refusedByHand(impl.ErrSize))
		wantTaken(t, "too long a list, of none", c, -1, make([]impl.Op, many), refusedByHand(impl.ErrSize))
		for what, wrong := range wrongClients() {
			wantTaken(t, what+", too long a list", wrong, 0, make([]impl.Op, many), refusedByHand(impl.ErrSize))
		}
	}
	for what, wrong := range wrongClients() {
		wantTaken(t, what, wrong, 0, nil, refusedByHand(impl.ErrForm))
		wantTaken(t, what+", no place", wrong, math.MaxInt64, serverOps(2), refusedByHand(impl.ErrForm))
	}
}

// All faults of Take together, whichever: the first is told.
func TestFaultsOfTakeInOrder(t *testing.T) {
	faults := []fault{
		{"too long a list", impl.ErrSize}, {"a wrong client", impl.ErrForm}, {"a wrong Op", impl.ErrForm}, {"from below 0", impl.ErrForm},
		{"from above Got", impl.ErrRange}, {"beyond MaxTime", impl.ErrRange}, {"one of its own", impl.ErrNone},
		{"another of a stamp", impl.ErrThere}, {"a full Log", impl.ErrFull},
	}
	for chosen := 1; chosen < 1<<len(faults); chosen++ {
		code, what := firstOf(faults, chosen)
		is := func(i int) bool { return chosen&(1<<i) != 0 }
		if is(3) && (is(4) || is(5)) {
			continue // no place is both
		}
		all, from := 40, int64(8)
		if is(8) {
			all = impl.MaxOps
		}
		c := clientOf(2, manyOps(all), 3)
		c.Got = from
		l := []impl.Op{moveOp(500, 8, 2, 0, "a")}
		if is(5) {
			c.Got, from = impl.MaxTime, impl.MaxTime
		}
		if is(6) {
			l = append(l, moveOp(501, 2, 2, 0, "a"))
		}
		if is(7) {
			l = append([]impl.Op{setOp(1, 1, 2, "k", "another")}, l...)
		}
		if is(4) {
			from = c.Got + 1
		}
		if is(3) {
			from = -1
		}
		if is(2) {
			l = append(l, impl.Op{})
		}
		if is(1) {
			c.Acked = -1
		}
		if is(0) {
			l = append(l, make([]impl.Op, impl.MaxList)...)
		}
		wantTaken(t, what, c, from, l, refusedByHand(code))
	}
}
