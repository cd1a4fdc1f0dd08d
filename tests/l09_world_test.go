package tests

import (
	"fmt"
	"math"
	"slices"
	"testing"

	"loop.example/g00378/impl"
)

// The kinds of events, as the table of chapter 10 numbers them.
const (
	moveEvent = iota
	setEvent
	sendEvent
	askEvent
	upEvent
	downEvent
	spoilUpEvent
	spoilDownEvent
)

// The m of the events that spoil a line.
const (
	loses   = 0
	doubles = 1
)

func ofA(kind, m int64) int64 {
	return kind + 16*m
}

func ofB(kind, m int64) int64 {
	return kind + 8 + 16*m
}

// player: what the tests need to know of a and of b, to ask the same of both.
type player struct {
	name    string
	replica int64
	of      func(kind, m int64) int64
	client  func(o impl.WorldOut) impl.Client
}

func bothPlayers() []player {
	return []player{
		{"a", 1, ofA, func(o impl.WorldOut) impl.Client { return o.A }},
		{"b", 2, ofB, func(o impl.WorldOut) impl.Client { return o.B }},
	}
}

// other: the one that is not p.
func (p player) other() player {
	return bothPlayers()[2-p.replica]
}

// does: so many events of one kind, with the ms.
func (p player) does(kind int64, ms ...int64) []int64 {
	var script []int64
	for _, m := range ms {
		script = append(script, p.of(kind, m))
	}
	return script
}

// times: so many events of one kind, of m 0.
func (p player) times(many int, kind int64) []int64 {
	return slices.Repeat([]int64{p.of(kind, 0)}, many)
}

// delivers: that many deeds are done, and sent up till all are acked.
func (p player) delivers(many int) []int64 {
	var script []int64
	for done := 0; done < many; {
		some := min(3, many-done)
		script = slices.Concat(script, p.times(some, moveEvent), p.does(sendEvent, 0), p.does(upEvent, 0), p.does(downEvent, 0))
		done += some
	}
	return script
}

// fetches: what is asked for comes up, and the answer down.
func (p player) fetches() []int64 {
	return slices.Concat(p.times(1, askEvent), p.times(1, upEvent), p.times(1, downEvent))
}

// worldWith: a world in which nothing has happened, but for that.
func worldWith(change func(o *impl.WorldOut)) impl.WorldOut {
	o := impl.WorldOut{A: impl.Client{Replica: 1}, B: impl.Client{Replica: 2}}
	change(&o)
	return o
}

func sameWorld(a, b impl.WorldOut) bool {
	return sameClient(a.A, b.A) && sameClient(a.B, b.B) && sameServer(a.Server, b.Server) && a.Code == b.Code
}

// The world by hand, by the words of chapter 10, with the calls by hand of the
// chapters ahead of it.

type letter struct {
	what string
	from int64
	many int64
	ops  []impl.Op
}

type worldModel struct {
	hands  [2]impl.Client
	server impl.Server
	up     [2][]letter
	down   [2][]letter
	saw    map[string]int
}

func newWorldModel() *worldModel {
	return &worldModel{hands: [2]impl.Client{{Replica: 1}, {Replica: 2}}, saw: map[string]int{}}
}

func (w *worldModel) post(l []letter, more letter) []letter {
	if len(l) == 20 {
		w.saw["lost at a full line"]++
		return l
	}
	return append(slices.Clone(l), more)
}

func (w *worldModel) did(who int, what string, told impl.ClientOut) {
	w.saw[fmt.Sprint(what, " tells ", told.Code)]++
	if told.Code == impl.OK {
		w.hands[who] = told.Client
	}
}

func (w *worldModel) send(who int) {
	c := w.hands[who]
	switch len(c.Out) {
	case 0:
		w.saw["nothing is sent up"]++
	case 1, 2, 3:
		w.up[who] = w.post(w.up[who], letter{what: "sent", from: c.Acked, ops: slices.Clone(c.Out)})
	default:
		w.up[who] = w.post(w.up[who], letter{what: "sent", from: c.Acked, ops: slices.Clone(c.Out[:3])})
	}
}

func (w *worldModel) comeUp(who int) {
	if len(w.up[who]) == 0 {
		w.saw["nothing comes up"]++
		return
	}
	first := w.up[who][0]
	w.up[who] = w.up[who][1:]
	if first.what == "asking" {
		told := downloadByHand(w.server, first.from, 4)
		w.saw[fmt.Sprint("Download tells ", len(told.Ops))]++
		if told.Code == impl.OK {
			w.down[who] = w.post(w.down[who], letter{what: "deeds", from: first.from, ops: told.Ops})
		}
		return
	}
	told := uploadByHand(w.server, int64(who+1), first.from, first.ops)
	w.saw[fmt.Sprint("Upload tells ", told.Code)]++
	if told.Code == impl.OK {
		if len(told.Server.Ops) == len(w.server.Ops) {
			w.saw["Upload of what was there"]++
		}
		w.server = told.Server
	}
	if told.Code == impl.OK || told.Code == impl.ErrRange {
		w.down[who] = w.post(w.down[who], letter{what: "many", many: told.Many})
	}
}

func (w *worldModel) comeDown(who int) {
	if len(w.down[who]) == 0 {
		w.saw["nothing comes down"]++
		return
	}
	first := w.down[who][0]
	w.down[who] = w.down[who][1:]
	if first.what == "many" {
		w.did(who, "Ack", ackByHand(w.hands[who], first.many))
		return
	}
	if first.from < w.hands[who].Got && len(first.ops) > 0 {
		w.saw["Take of what was taken"]++
	}
	w.did(who, "Take", takeByHand(w.hands[who], first.from, first.ops))
}

func (w *worldModel) spoil(what string, l []letter, lost bool) []letter {
	switch {
	case len(l) == 0:
		w.saw["nothing to spoil "+what]++
		return l
	case lost:
		w.saw["lost "+what]++
		return l[1:]
	}
	w.saw["doubled "+what]++
	return w.post(l, l[0])
}

func (w *worldModel) happen(event int64) {
	if event < 0 {
		w.saw["below 0"]++
		return
	}
	who, m := int(event>>3&1), event>>4
	c := w.hands[who]
	switch event & 7 {
	case moveEvent:
		names := []string{"n0", "n1", "n2"}
		w.did(who, "Move", actByHand(c, mv(2+m%6, m/6&7, names[m%3])))
	case setEvent:
		w.did(who, "Set", actByHand(c, set(2+m%6, "k", fmt.Sprint(m))))
	case sendEvent:
		w.send(who)
	case askEvent:
		w.up[who] = w.post(w.up[who], letter{what: "asking", from: c.Got})
	case upEvent:
		w.comeUp(who)
	case downEvent:
		w.comeDown(who)
	case spoilUpEvent:
		w.up[who] = w.spoil("up", w.up[who], m%2 == 0)
	case spoilDownEvent:
		w.down[who] = w.spoil("down", w.down[who], m%2 == 0)
	}
}

func (w *worldModel) settle() {
	for round := range 200 {
		who := round % 2
		w.send(who)
		w.up[who] = w.post(w.up[who], letter{what: "asking", from: w.hands[who].Got})
		for len(w.up[who]) > 0 {
			w.comeUp(who)
		}
		for len(w.down[who]) > 0 {
			w.comeDown(who)
		}
	}
}

func (w *worldModel) told() impl.WorldOut {
	return impl.WorldOut{A: w.hands[0], B: w.hands[1], Server: w.server}
}

func worldByHand(script []int64, settle bool) impl.WorldOut {
	if len(script) > 400 {
		return impl.WorldOut{Code: impl.ErrSize}
	}
	w := newWorldModel()
	for _, event := range script {
		w.happen(event)
	}
	if settle {
		w.settle()
	}
	return w.told()
}

// What holds of each world.

// firstOnes: are those the first ones of all?
func firstOnes(some, all []impl.Op) bool {
	return len(some) <= len(all) && slices.Equal(some, all[:len(some)])
}

// wantOnceInOrder is promise 10, as far as it holds whatever happens.
func wantOnceInOrder(t *testing.T, what string, o impl.WorldOut) {
	t.Helper()
	for _, p := range bothPlayers() {
		c := p.client(o)
		if !impl.ClientRight(c) || !rightByHand(c) || c.Replica != p.replica {
			t.Errorf("%s: %s is not right: %v", what, p.name, c)
		}
		own, came := byReplica(c.Log, p.replica), byReplica(o.Server.Ops, p.replica)
		if !firstOnes(came, own) {
			t.Errorf("%s: the server has %v of %s's own %v", what, came, p.name, own)
		}
		if theirs := byReplica(p.other().client(o).Log, p.replica); !firstOnes(theirs, came) {
			t.Errorf("%s: of %s's deeds that came the other one has %v", what, p.name, theirs)
		}
		if c.Acked > int64(len(came)) || c.Got > int64(len(o.Server.Ops)) {
			t.Errorf("%s: %s has Acked %d and Got %d of %v", what, p.name, c.Acked, c.Got, o.Server)
		}
	}
	if !impl.ServerRight(o.Server) || !serverRightByHand(o.Server) {
		t.Errorf("%s: the server is not right: %v", what, o.Server)
	}
	if len(byReplica(o.Server.Ops, 1))+len(byReplica(o.Server.Ops, 2)) != len(o.Server.Ops) {
		t.Errorf("%s: the server has deeds of no one: %v", what, o.Server)
	}
}

// wantListsApart: who writes to a list of an answer writes to no other one.
func wantListsApart(t *testing.T, what string, o impl.WorldOut) {
	t.Helper()
	names := []string{"A.Log", "A.Out", "B.Log", "B.Out", "Server.Ops"}
	lists := [][]impl.Op{o.A.Log, o.A.Out, o.B.Log, o.B.Out, o.Server.Ops}
	was := make([][]impl.Op, len(lists))
	for i, l := range lists {
		was[i] = slices.Clone(l)
	}
	for i, l := range lists {
		clear(l[:cap(l)])
		for k := i + 1; k < len(lists); k++ {
			if !slices.Equal(lists[k], was[k]) {
				t.Errorf("%s: %s and %s share memory", what, names[i], names[k])
			}
		}
	}
}

// wantWorld holds a run against what it must tell, and what every run keeps.
func wantWorld(t *testing.T, what string, script []int64, settle bool, want impl.WorldOut) {
	t.Helper()
	what = fmt.Sprintf("%s, %d events, settle %v", what, len(script), settle)
	room := append(slices.Clone(script), 7, math.MaxInt64, -1)
	handedIn := slices.Clone(room)
	got := impl.WorldRun(room[:len(script)], settle)
	if !sameWorld(got, want) {
		t.Errorf("%s: got %v, want %v", what, got, want)
	}
	if !slices.Equal(room, handedIn) {
		t.Errorf("%s: the script is not as it was", what)
	}
	if got.Code != impl.OK {
		return
	}
	wantOnceInOrder(t, what, got)
	if settle {
		wantSettled(t, what, script, got)
	}
	wantListsApart(t, what, got)
	if again := impl.WorldRun(script, settle); !sameWorld(again, want) {
		t.Errorf("%s: once more got %v, want %v", what, again, want)
	}
}

// wantSettled is the rest of promise 10: what was done is what the same script
// leaves in the two logs without settle.
func wantSettled(t *testing.T, what string, script []int64, o impl.WorldOut) {
	t.Helper()
	ahead := impl.WorldRun(script, false)
	if len(byReplica(ahead.A.Log, 1))+len(byReplica(ahead.B.Log, 2)) > 150 {
		return
	}
	all := impl.LogAdd(byReplica(ahead.A.Log, 1), byReplica(ahead.B.Log, 2)).Ops
	for _, p := range bothPlayers() {
		c := p.client(o)
		if !slices.Equal(c.Log, all) {
			t.Errorf("%s: %s has %v of all deeds %v", what, p.name, c.Log, all)
		}
		if len(c.Out) != 0 || c.Got != int64(len(all)) || c.Acked != int64(len(byReplica(all, p.replica))) {
			t.Errorf("%s: %s has %d in Out, Acked %d and Got %d of %d", what, p.name, len(c.Out), c.Acked, c.Got, len(all))
		}
	}
	if !sameTree(impl.TreeOf(o.A.Log), impl.TreeOf(o.B.Log)) {
		t.Errorf("%s: the trees are not alike: %s", what, apart(impl.TreeOf(o.A.Log), impl.TreeOf(o.B.Log)))
	}
	if len(o.Server.Ops) != len(all) {
		t.Errorf("%s: the server has %d of %d", what, len(o.Server.Ops), len(all))
	}
}

// wantPlayed: a script without settle against what it must leave, and with it
// against the world by hand.
func wantPlayed(t *testing.T, what string, script []int64, want impl.WorldOut) {
	t.Helper()
	wantWorld(t, what, script, false, want)
	if byHand := worldByHand(script, false); !sameWorld(byHand, want) {
		t.Errorf("%s: by hand got %v, want %v", what, byHand, want)
	}
	wantWorld(t, what, script, true, worldByHand(script, true))
}
