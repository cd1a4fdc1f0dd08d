package tests

import (
	"fmt"
	"math"
	"slices"
	"testing"

	"loop.example/g00378/impl"
)

func newWorld() impl.WorldOut {
	return worldWith(func(*impl.WorldOut) {})
}

func TestAnEmptyScript(t *testing.T) {
	for what, script := range map[string][]int64{"none": nil, "an empty one": {}, "one that was cut": make([]int64, 9)[:0]} {
		wantPlayed(t, what, script, newWorld())
		wantWorld(t, what, script, true, newWorld())
	}
	for _, settle := range []bool{false, true} {
		got := impl.WorldRun(nil, settle)
		if !sameClient(got.A, impl.ClientNew(1)) || !sameClient(got.B, impl.ClientNew(2)) || !sameServer(got.Server, impl.Server{}) || got.Code != impl.OK {
			t.Errorf("settle %v: got %+v", settle, got)
		}
	}
}

func belowNought() []int64 {
	return []int64{-1, -2, -3, -4, -5, -6, -7, -8, -9, -15, -16, -17, -400, math.MinInt32, math.MinInt64 + 8, math.MinInt64 + 1, math.MinInt64}
}

func TestEventsBelowNought(t *testing.T) {
	for _, event := range belowNought() {
		wantPlayed(t, fmt.Sprint(event), []int64{event}, newWorld())
	}
	wantPlayed(t, "all of them", belowNought(), newWorld())
	for _, p := range bothPlayers() {
		script := slices.Concat(p.delivers(5), p.times(1, moveEvent), p.times(1, sendEvent), p.times(1, upEvent), p.other().times(3, moveEvent))
		want := worldByHand(script, false)
		for _, event := range belowNought() {
			var mixedIn []int64
			for _, e := range script {
				mixedIn = append(mixedIn, event, e)
			}
			wantWorld(t, fmt.Sprint(event, " among others of ", p.name), mixedIn, false, want)
			wantWorld(t, fmt.Sprint(event, " among others of ", p.name), mixedIn, true, impl.WorldRun(script, true))
		}
	}
}

// The greatest int64 is b's, of the kind 7, with an odd m: it doubles.
func TestTheGreatestEvent(t *testing.T) {
	b := bothPlayers()[1]
	greatest := []int64{math.MaxInt64}
	if b.of(spoilDownEvent, greatestM) != math.MaxInt64 {
		t.Fatal("another event is the greatest")
	}
	wantPlayed(t, "the greatest", greatest, newWorld())
	sent := slices.Concat(b.times(1, moveEvent), b.times(1, sendEvent), b.times(1, upEvent))
	lost := b.does(spoilDownEvent, loses)
	wantPlayed(t, "one, and lost", slices.Concat(sent, lost, b.times(1, downEvent)), b.worldOf(1, 0, 1))
	wantPlayed(t, "one doubled, and lost", slices.Concat(sent, greatest, lost, b.times(1, downEvent)), b.worldOf(1, 1, 1))
	// Those right below it, of the other kinds.
	for event := int64(math.MaxInt64); event > math.MaxInt64-40; event-- {
		script := slices.Concat(b.sixNodes(), bothPlayers()[0].sixNodes(), []int64{event})
		wantPlayed(t, fmt.Sprint(event), script, worldByHand(script, false))
	}
}

// Each small event by itself, and behind others that leave something in all
// places.
func TestEachSmallEvent(t *testing.T) {
	a, b := bothPlayers()[0], bothPlayers()[1]
	busy := slices.Concat(a.sixNodes(), b.sixNodes(), a.times(2, sendEvent), b.times(2, sendEvent), a.times(1, askEvent), b.times(1, askEvent), a.times(2, upEvent), b.times(2, upEvent))
	for event := range int64(800) {
		wantWorld(t, fmt.Sprint(event), []int64{event}, false, worldByHand([]int64{event}, false))
		script := slices.Concat(busy, []int64{event}, a.times(2, upEvent), b.times(2, upEvent), a.times(1, downEvent), b.times(1, downEvent))
		wantWorld(t, fmt.Sprint(event, " behind others"), script, false, worldByHand(script, false))
	}
}

func TestScriptsOfMaxList(t *testing.T) {
	for _, p := range bothPlayers() {
		for _, many := range []int{impl.MaxList - 1, impl.MaxList} {
			script := append(slices.Repeat([]int64{-1}, many-1), p.of(moveEvent, 0))
			wantPlayed(t, fmt.Sprint("the last of ", many, " is ", p.name, "'s"), script, p.worldOf(1, 0, 0))
		}
		for what, script := range map[string][]int64{
			"that does nothing": slices.Repeat([]int64{-1}, impl.MaxList+1),
			"of moves":          p.times(impl.MaxList+1, moveEvent),
			"of noughts":        make([]int64, impl.MaxList+1),
			"that is greater":   p.times(5000, askEvent),
			"of the greatest":   slices.Repeat([]int64{math.MaxInt64}, impl.MaxList+1),
		} {
			wantWorld(t, what, script, false, impl.WorldOut{Code: impl.ErrSize})
			wantWorld(t, what, script, true, impl.WorldOut{Code: impl.ErrSize})
		}
	}
	long := slices.Repeat([]int64{ofA(moveEvent, 0), ofB(moveEvent, 1), ofA(sendEvent, 0), ofB(sendEvent, 0), ofA(upEvent, 0), ofB(upEvent, 0), ofA(downEvent, 0), ofB(downEvent, 0)}, 50)
	wantPlayed(t, "MaxList events", long, worldByHand(long, false))
	if got := impl.WorldRun(long, false); len(got.A.Log) != 50 || len(got.Server.Ops) != 100 || got.Code != impl.OK {
		t.Errorf("of MaxList events: %d deeds of a, %d came, code %d", len(got.A.Log), len(got.Server.Ops), got.Code)
	}
}

// Of MaxOut deeds that were not acked there is no more, of whatever kind; when
// some are acked, there is room for so many.
func TestMaxOutInOut(t *testing.T) {
	for _, p := range bothPlayers() {
		for _, many := range []int{29, 30, 31, 40, 300} {
			wantPlayed(t, fmt.Sprint(p.name, " moves ", many), p.times(many, moveEvent), p.worldOf(min(many, 30), 0, 0))
		}
		full := p.times(30, moveEvent)
		wantPlayed(t, p.name+" sets behind MaxOut", slices.Concat(full, p.does(setEvent, 0, 6, 12)), p.worldOf(30, 0, 0))
		came := slices.Concat(full, p.times(1, sendEvent), p.times(1, upEvent))
		wantPlayed(t, p.name+", some came", slices.Concat(came, p.times(5, moveEvent)), p.worldOf(30, 0, 3))
		wantPlayed(t, p.name+", some are acked", slices.Concat(came, p.times(1, downEvent), p.times(5, moveEvent)), p.worldOf(33, 3, 3))
	}
}

// A log of MaxOps takes no more, and the server neither.
func TestMaxOpsInALog(t *testing.T) {
	for _, p := range bothPlayers() {
		q := p.other()
		wantPlayed(t, p.name+" fills all", p.delivers(150), p.worldOf(150, 150, 150))
		more := slices.Concat(p.times(5, moveEvent), p.does(setEvent, 0), p.times(1, sendEvent), p.times(1, upEvent), p.times(1, downEvent))
		wantPlayed(t, p.name+" fills all, and goes on", slices.Concat(p.delivers(150), more), p.worldOf(150, 150, 150))
		// Those in Out count, too.
		wantPlayed(t, p.name+" fills the log", slices.Concat(p.delivers(123), p.times(40, moveEvent)), p.worldOf(150, 123, 123))
		// The other one's do not come up, but for what there is room for.
		script := slices.Concat(p.delivers(150), q.delivers(2), q.times(1, downEvent))
		got := impl.WorldRun(script, false)
		if c := q.client(got); c.Acked != 0 || len(c.Out) != 2 || len(got.Server.Ops) != 150 {
			t.Errorf("the server is full of %s's: %s has %v", p.name, q.name, c)
		}
		wantPlayed(t, "the server is full of "+p.name+"'s", script, worldByHand(script, false))
	}
}

// wantAtTheEdge holds a script against the world by hand where so many just
// find room, or just find none; by hand all others would take too long.
func wantAtTheEdge(t *testing.T, what string, script []int64, many, room int) {
	t.Helper()
	if many == 3 && (room == 3 || room == 2) {
		wantPlayed(t, what, script, worldByHand(script, false))
	}
}

// What tells ErrFull puts nothing on the line down, and takes none of three if
// there is no room for all.
func TestAServerThatIsFull(t *testing.T) {
	for _, p := range bothPlayers() {
		q := p.other()
		for room := range 5 {
			for sent := 1; sent < 4; sent++ {
				ahead := slices.Concat(p.delivers(75), q.delivers(75-room), q.times(sent, moveEvent), q.times(1, sendEvent))
				script := slices.Concat(ahead, q.times(1, askEvent), q.times(2, upEvent), q.times(1, downEvent))
				what := fmt.Sprintf("room for %d, %s sends %d", room, q.name, sent)
				got := impl.WorldRun(script, false)
				c := q.client(got)
				if sent <= room && (c.Acked != int64(75-room+sent) || c.Got != 0 || len(got.Server.Ops) != 150-room+sent) {
					t.Errorf("%s: Acked %d, Got %d, %d came", what, c.Acked, c.Got, len(got.Server.Ops))
				}
				// The answer to the asking is the first that comes down.
				if sent > room && (c.Acked != int64(75-room) || c.Got != 4 || len(got.Server.Ops) != 150-room) {
					t.Errorf("%s: Acked %d, Got %d, %d came", what, c.Acked, c.Got, len(got.Server.Ops))
				}
				wantAtTheEdge(t, what, script, sent, room)
			}
		}
	}
}

// Who has no room for all that comes down takes none of it.
func TestATakeThatIsFull(t *testing.T) {
	for _, p := range bothPlayers() {
		q := p.other()
		for there := 1; there < 5; there++ {
			for room := range 5 {
				script := slices.Concat(q.delivers(there), p.delivers(120), p.times(30-room, moveEvent), p.fetches())
				what := fmt.Sprintf("room for %d, %s takes %d", room, p.name, there)
				// Behind the other one's deeds there are its own, which need no room.
				got, want := p.client(impl.WorldRun(script, false)), clientOf(p.replica, p.moved(150-room), 30-room)
				if there <= room {
					want.Log = impl.LogAdd(want.Log, q.moved(there)).Ops
					want.Got = 4
				}
				if !sameClient(got, want) {
					t.Errorf("%s: got %v, want %v", what, got, want)
				}
				wantAtTheEdge(t, what, script, there, room)
			}
		}
	}
}

// First all of a's that go at once, then b's, and so on; each takes what there
// is then.
func TestSettleIsForAThenForB(t *testing.T) {
	a, b := bothPlayers()[0], bothPlayers()[1]
	script := slices.Concat(b.times(5, moveEvent), a.times(4, moveEvent))
	x, y := a.moved(4), b.moved(5)
	came := slices.Concat(x[:3], y[:3], x[3:], y[3:])
	log := impl.LogAdd(x, y).Ops
	want := worldWith(func(o *impl.WorldOut) {
		o.A = impl.Client{Replica: 1, Clock: 5, Log: log, Acked: 4, Got: 9}
		o.B = impl.Client{Replica: 2, Clock: 5, Log: log, Acked: 5, Got: 9}
		o.Server = serverOf(came)
	})
	wantWorld(t, "four of a and five of b", script, true, want)
	// When b's first three are there already, but not acked, b sends them once
	// more, and its next two go behind a's last one.
	script = slices.Concat(script, b.times(1, sendEvent), b.times(1, upEvent))
	want.Server = serverOf(slices.Concat(y[:3], x[:3], x[3:], y[3:]))
	wantWorld(t, "three of b came ahead", script, true, want)
}

// In a round it sends up ahead of asking: so a finds three of its own, and then
// three of b's, for which there is no room. Had it asked first, it would find
// the first of b's behind its own, and take that.
func TestSettleSendsUpAheadOfAsking(t *testing.T) {
	a, b := bothPlayers()[0], bothPlayers()[1]
	script := slices.Concat(a.delivers(120), slices.Repeat(a.fetches(), 30), a.times(29, moveEvent), b.times(3, moveEvent))
	ahead := impl.WorldRun(script, false)
	if ahead.A.Got != 120 || len(ahead.A.Log) != 149 {
		t.Fatalf("a has Got %d and %d in its Log", ahead.A.Got, len(ahead.A.Log))
	}
	settled := impl.WorldRun(script, true)
	if want := a.moved(149); settled.A.Got != 123 || !slices.Equal(settled.A.Log, want) {
		t.Errorf("a has Got %d and %d in its Log, want 123 and 149", settled.A.Got, len(settled.A.Log))
	}
	wantWorld(t, "a sends up and has room for one", script, true, worldByHand(script, true))
}

// The longest way: all of a log from three and four at a time.
func TestSettleGoesTheWholeWay(t *testing.T) {
	for _, p := range bothPlayers() {
		q := p.other()
		script := slices.Concat(p.delivers(120), p.times(30, moveEvent), q.times(30, askEvent))
		want := p.worldOf(150, 150, 150)
		want.A.Log, want.A.Clock, want.A.Got = p.moved(150), 150, 150
		want.B.Log, want.B.Clock, want.B.Got = p.moved(150), 150, 150
		wantWorld(t, "all are "+p.name+"'s", script, true, want)
	}
}

func TestWorldsAreNewMemory(t *testing.T) {
	a, b := bothPlayers()[0], bothPlayers()[1]
	for what, script := range map[string][]int64{
		"some acked":   slices.Concat(a.does(moveEvent, 0, 1), a.does(setEvent, 1000, 1001), b.does(moveEvent, 3), b.does(setEvent, 2001), a.times(1, sendEvent), b.times(1, sendEvent), a.times(2, upEvent), b.times(2, upEvent), b.fetches(), a.fetches()),
		"none is sent": slices.Concat(a.does(moveEvent, 0, 1), a.does(setEvent, 0, 1000, 1001), b.does(moveEvent, 3), b.does(setEvent, 3, 2001)),
		"small digits": slices.Concat(a.does(moveEvent, 0), a.does(setEvent, 0, 6), b.does(moveEvent, 0), b.does(setEvent, 0, 6), a.times(1, sendEvent), b.times(1, sendEvent), a.times(1, upEvent), b.times(1, upEvent)),
	} {
		for _, settle := range []bool{false, true} {
			o, again := impl.WorldRun(script, settle), impl.WorldRun(script, settle)
			lists := [][]string{deedTexts(o.A.Log...), deedTexts(o.A.Out...), deedTexts(o.B.Log...), deedTexts(o.B.Out...), deedTexts(o.Server.Ops...), deedTexts(again.A.Log...)}
			for i, l := range lists {
				for _, other := range lists[i+1:] {
					wantApart(t, fmt.Sprintf("%s, settle %v, list %d", what, settle, i), l, other)
				}
			}
		}
	}
}
