package tests

import (
	"fmt"
	"slices"
	"testing"

	"loop.example/g00378/impl"
)

// moved: that many deeds of moveEvent with m 0, as p alone does them.
func (p player) moved(many int) []impl.Op {
	var l []impl.Op
	for i := range many {
		l = append(l, moveOp(int64(i+1), p.replica, 2, 0, "n0"))
	}
	return l
}

// worldOf: p has done that many deeds, of which so many are acked, and the
// server has the first ones; nothing was taken.
func (p player) worldOf(done, acked, came int) impl.WorldOut {
	o := p.hasDone(p.moved(done)...)
	c := clientOf(p.replica, p.moved(done), done-acked)
	if p.replica == 1 {
		o.A = c
	} else {
		o.B = c
	}
	if came > 0 {
		o.Server = serverOf(p.moved(came))
	}
	return o
}

// withGot: the same, but p has taken so many.
func (p player) withGot(o impl.WorldOut, got int64) impl.WorldOut {
	if p.replica == 1 {
		o.A.Got = got
	} else {
		o.B.Got = got
	}
	return o
}

func TestSendingUp(t *testing.T) {
	for _, p := range bothPlayers() {
		move, send := p.times(1, moveEvent), p.times(1, sendEvent)
		up, down := p.times(1, upEvent), p.times(1, downEvent)
		many := func(many int) []int64 { return p.times(many, moveEvent) }
		for done := range 9 {
			came := min(done, 3)
			what := fmt.Sprintf("%s sends some of %d", p.name, done)
			wantPlayed(t, what, slices.Concat(many(done), send), p.worldOf(done, 0, 0))
			wantPlayed(t, what+", up", slices.Concat(many(done), send, up), p.worldOf(done, 0, came))
			wantPlayed(t, what+", down", slices.Concat(many(done), send, up, down), p.worldOf(done, came, came))
			next := min(done, 6)
			wantPlayed(t, what+", and more", slices.Concat(many(done), send, up, down, send, up, down), p.worldOf(done, next, next))
			wantPlayed(t, what+", the same once more", slices.Concat(many(done), send, send, up, up, down, down), p.worldOf(done, came, came))
		}
		for what, c := range map[string]struct {
			script []int64
			want   impl.WorldOut
		}{
			// Were it a message, it would come up ahead of the one deed.
			"nothing of an empty Out":    {slices.Concat(send, send, move, send, up), p.worldOf(1, 0, 1)},
			"nothing when all is acked":  {slices.Concat(move, send, up, down, send, move, send, up), p.worldOf(2, 1, 2)},
			"Out as it is at that time":  {slices.Concat(move, send, move, move, up, down), p.worldOf(3, 1, 1)},
			"two, as it is at that time": {slices.Concat(many(2), send, move, up, down), p.worldOf(3, 2, 2)},
			// The second one is sent while nothing is acked yet: the same three.
			"Acked as it is at that time":  {slices.Concat(many(5), send, up, send, down, up, down), p.worldOf(5, 3, 3)},
			"Acked when some more is done": {slices.Concat(many(2), send, up, move, many(2), send, down, up, down), p.worldOf(5, 3, 3)},
			"from Acked on":                {slices.Concat(many(5), send, up, down, send, up, down), p.worldOf(5, 5, 5)},
			"nothing comes by itself":      {slices.Concat(many(5), send, send, down, down), p.worldOf(5, 0, 0)},
		} {
			wantPlayed(t, p.name+", "+what, c.script, c.want)
		}
	}
}

func TestAsking(t *testing.T) {
	for _, p := range bothPlayers() {
		q := p.other()
		ask, up, down := p.times(1, askEvent), p.times(1, upEvent), p.times(1, downEvent)
		for there := range 11 {
			for rounds := range 4 {
				script := slices.Concat(q.delivers(there), slices.Repeat(p.fetches(), rounds))
				got := min(there, 4*rounds)
				want := q.worldOf(there, there, there)
				mine := impl.Client{Replica: p.replica, Clock: int64(got), Log: q.moved(got), Got: int64(got)}
				if p.replica == 1 {
					want.A = mine
				} else {
					want.B = mine
				}
				wantPlayed(t, fmt.Sprintf("%s asks %d times for some of %d", p.name, rounds, there), script, want)
			}
		}
		for what, c := range map[string]struct {
			script []int64
			got    int64
		}{
			"Got as it is at that time":      {slices.Concat(ask, ask, up, down, up, down), 4},
			"Got behind what came":           {slices.Concat(ask, up, down, ask, up, down), 8},
			"nothing comes by itself":        {slices.Concat(ask, down, down), 0},
			"nor when it came up":            {slices.Concat(ask, ask, ask, up, up, up), 0},
			"late ones that were taken":      {slices.Concat(ask, ask, up, up, down, ask, up, down, down), 8},
			"those that were taken ahead":    {slices.Concat(ask, up, down, ask, up, down, ask, ask, up, up, down, down), 9},
			"one that was lost":              {slices.Concat(ask, p.does(spoilUpEvent, loses), ask, up, down), 4},
			"an answer that was lost":        {slices.Concat(ask, up, p.does(spoilDownEvent, loses), ask, up, down), 4},
			"an answer that is there twice":  {slices.Concat(ask, up, p.does(spoilDownEvent, doubles), down, ask, up, down, down), 8},
			"an asking that is there twice":  {slices.Concat(ask, p.does(spoilUpEvent, doubles), up, down, up, down, up), 4},
			"a late one behind the next one": {slices.Concat(ask, p.does(spoilUpEvent, doubles), up, down, ask, up, up, down, down), 8},
		} {
			script := slices.Concat(q.delivers(9), c.script)
			got := p.client(impl.WorldRun(script, false))
			want := impl.Client{Replica: p.replica, Clock: c.got, Log: q.moved(int(c.got)), Got: c.got}
			if !sameClient(got, want) {
				t.Errorf("%s, %s: got %v, want %v", p.name, what, got, want)
			}
			wantPlayed(t, p.name+", "+what, script, worldByHand(script, false))
		}
	}
}

// What an asking finds is what the server has when it comes up, not when it
// was sent; of what lies behind Got some may be its own.
func TestAskingFindsWhatIsThereThen(t *testing.T) {
	for _, p := range bothPlayers() {
		q := p.other()
		ask, up, down := p.times(1, askEvent), p.times(1, upEvent), p.times(1, downEvent)
		script := slices.Concat(q.delivers(1), ask, q.times(2, moveEvent), q.times(1, sendEvent), q.times(1, upEvent), up, down)
		if got := p.client(impl.WorldRun(script, false)); got.Got != 3 || !slices.Equal(got.Log, q.moved(3)) {
			t.Errorf("%s asked ahead of two more: got %v", p.name, got)
		}
		wantPlayed(t, p.name+" asked ahead of two more", script, worldByHand(script, false))
		script = slices.Concat(p.delivers(6), p.fetches())
		wantPlayed(t, p.name+" asks for its own", script, p.withGot(p.worldOf(6, 6, 6), 4))
		script = slices.Concat(p.times(6, moveEvent), p.times(1, sendEvent), up, ask, up, down, down)
		wantPlayed(t, p.name+" asks for its own, and has some more", script, p.withGot(p.worldOf(6, 3, 3), 3))
	}
}

// An empty list goes down, too: it comes ahead of what goes down behind it.
func TestAnEmptyListGoesDown(t *testing.T) {
	for _, p := range bothPlayers() {
		ask, up, down := p.times(1, askEvent), p.times(1, upEvent), p.times(1, downEvent)
		sent := slices.Concat(p.times(1, moveEvent), p.times(1, sendEvent), up)
		wantPlayed(t, p.name+", the empty list comes", slices.Concat(ask, up, sent, down), p.worldOf(1, 0, 1))
		wantPlayed(t, p.name+", and then Many", slices.Concat(ask, up, sent, down, down), p.worldOf(1, 1, 1))
		ahead := slices.Concat(p.delivers(2), p.fetches())
		wantPlayed(t, p.name+" has all", ahead, p.withGot(p.worldOf(2, 2, 2), 2))
		script := slices.Concat(ahead, ask, up, sent, down)
		wantPlayed(t, p.name+" has all, the empty list comes", script, p.withGot(p.worldOf(3, 2, 3), 2))
		script = slices.Concat(script, down)
		wantPlayed(t, p.name+" has all, and then Many", script, p.withGot(p.worldOf(3, 3, 3), 2))
	}
}

// Many that was acked already does nothing, nor does one that is less.
func TestManyThatWasAcked(t *testing.T) {
	for _, p := range bothPlayers() {
		move, send := p.times(1, moveEvent), p.times(1, sendEvent)
		up, down := p.times(1, upEvent), p.times(1, downEvent)
		twice := slices.Concat(move, send, up, p.does(spoilDownEvent, doubles)) // 1 and 1 are on the line down
		wantPlayed(t, p.name+", 1", slices.Concat(twice, down), p.worldOf(1, 1, 1))
		wantPlayed(t, p.name+", 1 and 1", slices.Concat(twice, down, down), p.worldOf(1, 1, 1))
		wantPlayed(t, p.name+", 1 and 1 ahead of another", slices.Concat(twice, down, move, down), p.worldOf(2, 1, 1))
		ahead := slices.Concat(move, send, up, move, send, up, p.does(spoilDownEvent, doubles)) // 1, 2 and 1
		for downs, acked := range []int{0, 1, 2, 2, 2} {
			script := slices.Concat(ahead, p.times(downs, downEvent))
			wantPlayed(t, fmt.Sprint(p.name, ", 1, 2 and 1, ", downs, " come"), script, p.worldOf(2, acked, 2))
		}
	}
}

// Of what goes up twice the server takes what was not there, and tells how many
// it has.
func TestWhatGoesUpTwice(t *testing.T) {
	for _, p := range bothPlayers() {
		move, send := p.times(1, moveEvent), p.times(1, sendEvent)
		up, down := p.times(1, upEvent), p.times(1, downEvent)
		twice := p.does(spoilUpEvent, doubles)
		wantPlayed(t, p.name+", the first once more", slices.Concat(move, send, twice, up, up), p.worldOf(1, 0, 1))
		wantPlayed(t, p.name+", and down", slices.Concat(move, send, twice, up, up, down, down), p.worldOf(1, 1, 1))
		wantPlayed(t, p.name+", more in the second", slices.Concat(move, send, move, send, up, up, down), p.worldOf(2, 1, 2))
		wantPlayed(t, p.name+", more in the second, down", slices.Concat(move, send, move, send, up, up, down, down), p.worldOf(2, 2, 2))
		// On the line up are one deed, both, and that one: the last of them finds
		// two, and tells it, though what told it ahead of that is lost.
		late := slices.Concat(move, send, move, send, twice, p.does(spoilUpEvent, loses), up, p.does(spoilDownEvent, loses), up)
		wantPlayed(t, p.name+", an old one behind a newer one", late, p.worldOf(2, 0, 2))
		wantPlayed(t, p.name+", an old one, down", slices.Concat(late, down), p.worldOf(2, 2, 2))
		wantPlayed(t, p.name+", the first lost", slices.Concat(move, send, p.does(spoilUpEvent, loses), up, down), p.worldOf(1, 0, 0))
	}
}

// The lines of one hand are not those of the other one.
func TestEachHasLinesOfItsOwn(t *testing.T) {
	for _, p := range bothPlayers() {
		q := p.other()
		done := slices.Concat(p.times(1, moveEvent), p.times(1, sendEvent))
		for _, kind := range []int64{upEvent, downEvent, spoilUpEvent, spoilDownEvent} {
			wantPlayed(t, fmt.Sprint(q.name, "'s kind ", kind), slices.Concat(done, q.times(3, kind), p.times(1, upEvent)), p.worldOf(1, 0, 1))
			wantPlayed(t, fmt.Sprint(q.name, "'s kind ", kind, ", down"), slices.Concat(done, p.times(1, upEvent), q.times(3, kind), p.times(1, downEvent)), p.worldOf(1, 1, 1))
		}
	}
}

func TestLinesThatAreEmpty(t *testing.T) {
	for _, p := range bothPlayers() {
		for kind := int64(upEvent); kind <= spoilDownEvent; kind++ {
			for _, m := range []int64{0, 1, 2, 3, greatestM - 1, greatestM} {
				what := fmt.Sprintf("%s's kind %d, m %d, of empty lines", p.name, kind, m)
				wantPlayed(t, what, p.does(kind, m), p.worldOf(0, 0, 0))
				wantPlayed(t, what+", often", slices.Repeat(p.does(kind, m), 30), p.worldOf(0, 0, 0))
				wantPlayed(t, what+", then one", slices.Concat(p.does(kind, m, m), p.delivers(1)), p.worldOf(1, 1, 1))
			}
		}
	}
}

// An even m loses the first message, an odd one doubles it, whatever else m is.
func TestSpoiltByTheLastBitOfM(t *testing.T) {
	for _, p := range bothPlayers() {
		sent := slices.Concat(p.times(1, moveEvent), p.times(1, sendEvent))
		up, down := p.times(1, upEvent), p.times(1, downEvent)
		for _, m := range []int64{0, 2, 4, 6, 18, 1000, greatestM - 1} {
			what := fmt.Sprintf("%s, m %d and %d", p.name, m, m+1)
			wantPlayed(t, what+", lost ahead of the server", slices.Concat(sent, p.does(spoilUpEvent, m), up, down), p.worldOf(1, 0, 0))
			wantPlayed(t, what+", lost behind the server", slices.Concat(sent, up, p.does(spoilDownEvent, m), down), p.worldOf(1, 0, 1))
			// Once more: one is lost, and one is left.
			wantPlayed(t, what+", twice ahead of the server", slices.Concat(sent, p.does(spoilUpEvent, m+1, m), up, down), p.worldOf(1, 1, 1))
			wantPlayed(t, what+", twice behind the server", slices.Concat(sent, up, p.does(spoilDownEvent, m+1, m), down), p.worldOf(1, 1, 1))
			wantPlayed(t, what+", twice, and both lost", slices.Concat(sent, p.does(spoilUpEvent, m+1, m, m), up, down), p.worldOf(1, 0, 0))
			wantPlayed(t, what+", twice down, and both lost", slices.Concat(sent, up, p.does(spoilDownEvent, m+1, m, m), down), p.worldOf(1, 0, 1))
		}
	}
}

// What is there once more is behind all others, and the first stays the first.
func TestOnceMoreBehindAllOthers(t *testing.T) {
	for _, p := range bothPlayers() {
		sent, ask := slices.Concat(p.times(1, moveEvent), p.times(1, sendEvent)), p.times(1, askEvent)
		up, down := p.times(1, upEvent), p.times(1, downEvent)
		// Sent, asked, sent: the first is lost, so that the asking finds nothing.
		ahead := slices.Concat(sent, ask, p.does(spoilUpEvent, doubles, loses), up, up, down, down)
		wantPlayed(t, p.name+", up, the first lost", ahead, p.worldOf(1, 1, 1))
		// The first stays: the asking finds its one.
		ahead = slices.Concat(sent, ask, p.does(spoilUpEvent, doubles), up, up, down, down)
		wantPlayed(t, p.name+", up, the first stays", ahead, p.withGot(p.worldOf(1, 1, 1), 1))
		// Down there are Many, the Ops and Many: the second is the Ops.
		ahead = slices.Concat(sent, ask, up, up, p.does(spoilDownEvent, doubles, loses), down)
		wantPlayed(t, p.name+", down, the first lost", ahead, p.withGot(p.worldOf(1, 0, 1), 1))
		wantPlayed(t, p.name+", down, the last", slices.Concat(ahead, down), p.withGot(p.worldOf(1, 1, 1), 1))
		ahead = slices.Concat(sent, ask, up, up, p.does(spoilDownEvent, doubles), down)
		wantPlayed(t, p.name+", down, the first stays", ahead, p.worldOf(1, 1, 1))
	}
}

// A line up has room for twenty.
func TestALineUpThatIsFull(t *testing.T) {
	for _, p := range bothPlayers() {
		sent := slices.Concat(p.times(1, moveEvent), p.times(1, sendEvent))
		for askings := 17; askings < 24; askings++ {
			came := 0
			if askings < impl.MaxLine {
				came = 1
			}
			what := fmt.Sprintf("%s, %d askings", p.name, askings)
			script := slices.Concat(p.times(askings, askEvent), sent, p.times(30, upEvent))
			wantPlayed(t, what+" ahead of one sent", script, p.worldOf(1, 0, came))
			// What is doubled is lost, if it's the one that is one too many.
			doubled := 0
			if askings+1 < impl.MaxLine {
				doubled = 1
			}
			script = slices.Concat(sent, p.times(askings, askEvent), p.does(spoilUpEvent, doubles), slices.Repeat(p.does(spoilUpEvent, loses), min(askings+1, 20)), p.times(1, upEvent))
			wantPlayed(t, what+" behind one that is doubled", script, p.worldOf(1, 0, doubled))
		}
		// Room that is made is room for one more.
		script := slices.Concat(p.times(25, askEvent), p.times(1, upEvent), sent, p.times(20, upEvent))
		wantPlayed(t, p.name+", one has come up", script, p.worldOf(1, 0, 1))
		script = slices.Concat(p.times(25, askEvent), p.does(spoilUpEvent, loses), sent, p.times(20, upEvent))
		wantPlayed(t, p.name+", one was lost", script, p.worldOf(1, 0, 1))
		script = slices.Concat(p.times(20, askEvent), slices.Repeat(p.does(spoilUpEvent, doubles), 30), sent, p.times(60, upEvent))
		wantPlayed(t, p.name+", none was doubled", script, p.worldOf(1, 0, 0))
	}
}

// A line down has room for twenty; what it has no room for has come up all the
// same.
func TestALineDownThatIsFull(t *testing.T) {
	for _, p := range bothPlayers() {
		sent := slices.Concat(p.times(1, moveEvent), p.times(1, sendEvent))
		for lists := 17; lists < 24; lists++ {
			acked := 0
			if lists < impl.MaxLine {
				acked = 1
			}
			what := fmt.Sprintf("%s, %d lists", p.name, lists)
			empty := slices.Repeat(slices.Concat(p.times(1, askEvent), p.times(1, upEvent)), lists)
			script := slices.Concat(empty, sent, p.times(1, upEvent), p.times(30, downEvent))
			wantPlayed(t, what+" ahead of Many", script, p.worldOf(1, acked, 1))
			doubled := 0
			if lists+1 < impl.MaxLine {
				doubled = 1
			}
			script = slices.Concat(sent, p.times(1, upEvent), empty, p.does(spoilDownEvent, doubles), slices.Repeat(p.does(spoilDownEvent, loses), min(lists+1, 20)), p.times(1, downEvent))
			// The askings find the one that came, but none of them comes down.
			wantPlayed(t, what+" behind Many that is doubled", script, p.worldOf(1, doubled, 1))
		}
	}
}

// What a full line loses is not lost for good: it is sent, or asked for, once
// more.
func TestAfterAFullLineAllComes(t *testing.T) {
	for _, p := range bothPlayers() {
		q := p.other()
		script := slices.Concat(p.times(30, askEvent), p.times(4, moveEvent), p.times(30, sendEvent), q.times(30, askEvent), q.times(25, upEvent), q.times(30, askEvent), q.times(5, moveEvent))
		want := impl.WorldRun(script, true)
		if len(want.A.Log) != 9 || len(want.B.Log) != 9 || len(want.Server.Ops) != 9 {
			t.Errorf("%s fills the line up: %v", p.name, want)
		}
		wantPlayed(t, p.name+" fills the line up, "+q.name+" the line down", script, worldByHand(script, false))
	}
}
