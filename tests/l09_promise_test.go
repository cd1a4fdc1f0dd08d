package tests

import (
	"fmt"
	"math/rand"
	"slices"
	"testing"

	"loop.example/g00378/impl"
)

// anyM: mostly small ones, so that there is something to find of what an event
// asks for.
func anyM(r *rand.Rand) int64 {
	return oneOf(r, int64(r.Intn(12)), int64(r.Intn(48)), int64(r.Intn(48)), r.Int63n(greatestM+1))
}

// characters: how often each kind of event comes, of a hundred or so.
func characters() map[string][]int {
	return map[string][]int{
		"even":    {12, 12, 12, 12, 12, 12, 12, 12},
		"busy":    {20, 12, 15, 8, 22, 20, 2, 2},
		"lossy":   {10, 6, 16, 16, 14, 14, 24, 24},
		"late":    {10, 6, 24, 24, 14, 6, 4, 4},
		"silent":  {40, 40, 2, 2, 4, 4, 2, 2},
		"talking": {6, 2, 25, 25, 20, 20, 2, 2},
	}
}

func anyKind(r *rand.Rand, often []int) int64 {
	all := 0
	for _, some := range often {
		all += some
	}
	at := r.Intn(all)
	for kind, some := range often {
		if at < some {
			return int64(kind)
		}
		at -= some
	}
	return 0
}

func anyScript(r *rand.Rand, often []int, many int) []int64 {
	var script []int64
	for range many {
		p := bothPlayers()[r.Intn(2)]
		script = append(script, p.of(anyKind(r, often), anyM(r)))
		if r.Intn(40) == 0 {
			script[len(script)-1] = -1 - r.Int63()
		}
	}
	return script
}

// crowdedScript: both do and deliver so much that it does not fit into a log.
func crowdedScript(r *rand.Rand) []int64 {
	var script []int64
	for len(script) < 340 {
		p := bothPlayers()[r.Intn(2)]
		script = slices.Concat(script, p.delivers(3*r.Intn(3)))
		if r.Intn(3) == 0 {
			script = slices.Concat(script, p.fetches())
		}
	}
	return append(script, anyScript(r, characters()["busy"], impl.MaxList-len(script))...)
}

// wantLikeByHand: with and without settle; what was seen by hand is counted.
func wantLikeByHand(t *testing.T, what string, script []int64, saw map[string]int) {
	t.Helper()
	w := newWorldModel()
	w.saw = saw
	for _, event := range script {
		w.happen(event)
	}
	wantWorld(t, what, script, false, w.told())
	done := len(byReplica(w.hands[0].Log, 1)) + len(byReplica(w.hands[1].Log, 2))
	if done > 150 {
		saw["more than fits into a log"]++
	}
	w.settle()
	wantWorld(t, what, script, true, w.told())
}

func TestEachOnceInOrderWhateverIsLost(t *testing.T) {
	saw := map[string]int{}
	for what, often := range characters() {
		r := rand.New(rand.NewSource(int64(len(what)) * 17))
		for round := range 12 {
			script := anyScript(r, often, oneOf(r, 5, 30, 120, 250, impl.MaxList))
			wantLikeByHand(t, fmt.Sprintf("%s, round %d", what, round), script, saw)
			if t.Failed() {
				t.Fatalf("%s, round %d: %v", what, round, script)
			}
		}
	}
	r := rand.New(rand.NewSource(9))
	for round := range 6 {
		wantLikeByHand(t, fmt.Sprintf("crowded, round %d", round), crowdedScript(r), saw)
	}
	for _, what := range []string{
		"Move tells 0", "Move tells 6", "Move tells 9", "Move tells 10", "Set tells 0", "Set tells 6", "Set tells 9",
		"Take tells 0", "Take tells 9", "Take of what was taken", "Ack tells 0", "Ack tells 8",
		"Upload tells 0", "Upload tells 9", "Upload of what was there",
		"Download tells 0", "Download tells 1", "Download tells 2", "Download tells 3", "Download tells 4",
		"nothing is sent up", "nothing comes up", "nothing comes down", "nothing to spoil up", "nothing to spoil down",
		"lost up", "lost down", "doubled up", "doubled down", "lost at a full line", "below 0",
	} {
		if saw[what] < 10 {
			t.Errorf("%q was seen only %d times: %v", what, saw[what], saw)
		}
	}
	if saw["more than fits into a log"] < 3 {
		t.Errorf("only %d times there was more than fits into a log", saw["more than fits into a log"])
	}
}

// Many more scripts, against the promise alone.
func TestBothHaveAllInTheEnd(t *testing.T) {
	many := 0
	for what, often := range characters() {
		r := rand.New(rand.NewSource(int64(len(what)) * 31))
		for round := range 25 {
			script := anyScript(r, often, 1+r.Intn(impl.MaxList))
			name := fmt.Sprintf("%s, round %d", what, round)
			wantOnceInOrder(t, name, impl.WorldRun(script, false))
			settled := impl.WorldRun(script, true)
			wantOnceInOrder(t, name+", settled", settled)
			wantSettled(t, name, script, settled)
			if t.Failed() {
				t.Fatalf("%s: %v", name, script)
			}
			many += len(settled.Server.Ops)
		}
	}
	if many < 3000 {
		t.Errorf("only %d deeds came to the servers", many)
	}
}

// What a script has brought about is there at each of its events, too: what came
// stays, and in its order.
func TestWhatCameStaysThere(t *testing.T) {
	for what, often := range characters() {
		script := anyScript(rand.New(rand.NewSource(int64(len(what))*7)), often, 200)
		var was impl.WorldOut
		for events := range len(script) {
			now := impl.WorldRun(script[:events], false)
			wantOnceInOrder(t, what, now)
			if !firstOnes(was.Server.Ops, now.Server.Ops) {
				t.Fatalf("%s, %d events: the server had %v, and has %v", what, events, was.Server.Ops, now.Server.Ops)
			}
			for _, p := range bothPlayers() {
				before, behind := p.client(was), p.client(now)
				if before.Got > behind.Got || before.Acked > behind.Acked || before.Clock > behind.Clock {
					t.Fatalf("%s, %d events: %s had %v, and has %v", what, events, p.name, before, behind)
				}
				if !firstOnes(byReplica(before.Log, p.replica), byReplica(behind.Log, p.replica)) {
					t.Fatalf("%s, %d events: %s lost a deed", what, events, p.name)
				}
			}
			was = now
		}
	}
}

// Who runs a script in two hands that change their names has the same, but for
// the stamps.
func TestAAndBDoAlike(t *testing.T) {
	for what, often := range characters() {
		script := anyScript(rand.New(rand.NewSource(int64(len(what))*5)), often, 150)
		var ofA, ofB []int64
		for _, event := range script {
			if event >= 0 {
				ofA, ofB = append(ofA, event&^8), append(ofB, event|8)
			}
		}
		a, b := impl.WorldRun(ofA, false), impl.WorldRun(ofB, false)
		if !sameClient(a.B, impl.ClientNew(2)) || !sameClient(b.A, impl.ClientNew(1)) {
			t.Errorf("%s: who has no event does something", what)
		}
		if !slices.Equal(stampedBy(2, a.A.Log), b.B.Log) || !slices.Equal(stampedBy(2, a.A.Out), b.B.Out) || a.A.Acked != b.B.Acked || a.A.Got != b.B.Got {
			t.Errorf("%s: a alone does %v, b alone %v", what, a.A, b.B)
		}
		if !slices.Equal(stampedBy(2, a.Server.Ops), b.Server.Ops) {
			t.Errorf("%s: of a there came %v, of b %v", what, a.Server.Ops, b.Server.Ops)
		}
	}
}

func stampedBy(replica int64, l []impl.Op) []impl.Op {
	l = slices.Clone(l)
	for i := range l {
		l[i].Replica = replica
	}
	return l
}
