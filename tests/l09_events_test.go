package tests

import (
	"fmt"
	"math"
	"slices"
	"testing"

	"loop.example/g00378/impl"
)

// greatestM is the greatest m that an event may have.
const greatestM = math.MaxInt64 / 16

// sixNodes: the nodes 2 to 7, all below the root.
func (p player) sixNodes() []int64 {
	return p.does(moveEvent, 0, 1, 2, 3, 4, 5)
}

func (p player) sixMoves() []impl.Op {
	return []impl.Op{
		moveOp(1, p.replica, 2, 0, "n0"), moveOp(2, p.replica, 3, 0, "n1"), moveOp(3, p.replica, 4, 0, "n2"),
		moveOp(4, p.replica, 5, 0, "n0"), moveOp(5, p.replica, 6, 0, "n1"), moveOp(6, p.replica, 7, 0, "n2"),
	}
}

// hasDone: a client that has done these deeds, and sent none.
func (p player) hasDone(l ...impl.Op) impl.WorldOut {
	return worldWith(func(o *impl.WorldOut) {
		c := clientOf(p.replica, l, len(l))
		if p.replica == 1 {
			o.A = c
		} else {
			o.B = c
		}
	})
}

// wantDeeds: an event behind others leaves that client with these deeds in Log
// and Out, and all else as it was.
func wantDeeds(t *testing.T, p player, ahead []int64, kind, m int64, want ...impl.Op) {
	t.Helper()
	what := fmt.Sprintf("%s, behind %d events of the kind %d with m %d", p.name, len(ahead), kind, m)
	script := append(slices.Clone(ahead), p.of(kind, m))
	if got, want := impl.WorldRun(script, false), p.hasDone(want...); !sameWorld(got, want) {
		t.Errorf("%s: got %v, want %v", what, got, want)
	}
}

func TestMovesByTheTable(t *testing.T) {
	for _, p := range bothPlayers() {
		for cycle := range int64(3) {
			for parent := range int64(8) {
				for node := int64(2); node < 8; node++ {
					m := cycle*48 + parent*6 + node - 2
					name := fmt.Sprint("n", (node-2)%3)
					if parent < 2 {
						wantDeeds(t, p, nil, moveEvent, m, moveOp(1, p.replica, node, parent, name))
					} else {
						wantDeeds(t, p, nil, moveEvent, m)
					}
					six := p.sixMoves()
					if node != parent {
						six = append(six, moveOp(7, p.replica, node, parent, name))
					}
					wantDeeds(t, p, p.sixNodes(), moveEvent, m, six...)
				}
			}
		}
	}
}

func TestMovesOfGreatNumbers(t *testing.T) {
	for _, p := range bothPlayers() {
		for _, c := range []struct {
			m, node, parent int64
			name            string
		}{
			{13, 3, 2, "n1"},
			{100, 6, 0, "n1"},
			{1000, 6, 6, ""}, // below itself
			{1001, 7, 6, "n2"},
			{99999999999999998, 4, 2, "n2"},
			{greatestM - 1, 2, 5, "n0"},
			{greatestM, 3, 5, "n1"},
		} {
			six := p.sixMoves()
			if c.name != "" {
				six = append(six, moveOp(7, p.replica, c.node, c.parent, c.name))
			}
			wantDeeds(t, p, p.sixNodes(), moveEvent, c.m, six...)
		}
	}
}

func TestSetsByTheTable(t *testing.T) {
	texts := map[int64]string{
		0: "0", 1: "1", 7: "7", 9: "9", 10: "10", 47: "47", 48: "48", 99: "99", 100: "100", 101: "101", 4711: "4711",
		1000000: "1000000", 123456789012: "123456789012",
		576460752303423486: "576460752303423486", 576460752303423487: "576460752303423487",
	}
	for _, p := range bothPlayers() {
		for m, value := range texts {
			wantDeeds(t, p, p.sixNodes(), setEvent, m, append(p.sixMoves(), setOp(7, p.replica, 2+m%6, "k", value))...)
			wantDeeds(t, p, nil, setEvent, m)
		}
		for m := range int64(60) {
			wantDeeds(t, p, p.sixNodes(), setEvent, m, append(p.sixMoves(), setOp(7, p.replica, 2+m%6, "k", fmt.Sprint(m)))...)
		}
	}
}

// What would tell a code does nothing, and what comes behind it goes on as if it
// had not been.
func TestEventsThatWouldTellACode(t *testing.T) {
	for _, p := range bothPlayers() {
		script := slices.Concat(
			p.does(moveEvent, 13), // 3 below 2, which is none
			p.does(setEvent, 1),   // of 3, which is none
			p.does(moveEvent, 1),  // 3 below the root
			p.does(setEvent, 1, 7),
			p.does(moveEvent, 7),  // 3 into the trash
			p.does(moveEvent, 19), // 3 below itself
			p.does(moveEvent, 20), // 4 below 3
			p.does(setEvent, 2),
			p.does(moveEvent, 25), // 3 below 4, which lies below it
			p.does(setEvent, 3),   // of 5, which is none
			p.does(moveEvent, 24), // 2 below 4
			p.does(moveEvent, 13), // 3 below 2, which lies below 4
		)
		wantPlayed(t, p.name+" does what it may and what it may not", script, p.hasDone(
			moveOp(1, p.replica, 3, 0, "n1"), setOp(2, p.replica, 3, "k", "1"), setOp(3, p.replica, 3, "k", "7"),
			moveOp(4, p.replica, 3, 1, "n1"), moveOp(5, p.replica, 4, 3, "n2"), setOp(6, p.replica, 4, "k", "2"),
			moveOp(7, p.replica, 2, 4, "n0"),
		))
	}
}

// Each hand has a tree of its own: what the other one did is not there till it
// comes down, and then the clock goes on behind it.
func TestWhatTheOtherDidIsNotThereYet(t *testing.T) {
	for _, p := range bothPlayers() {
		q := p.other()
		ahead := slices.Concat(p.does(moveEvent, 1), p.does(sendEvent, 0), p.does(upEvent, 0), q.does(setEvent, 1), q.does(moveEvent, 12))
		if got := q.client(impl.WorldRun(ahead, false)); !sameClient(got, impl.ClientNew(q.replica)) {
			t.Errorf("%s did what it may not: %v", q.name, got)
		}
		script := slices.Concat(ahead, q.fetches(), q.does(setEvent, 1), q.does(moveEvent, 6))
		x, k, y := moveOp(1, p.replica, 3, 0, "n1"), setOp(2, q.replica, 3, "k", "1"), moveOp(3, q.replica, 2, 1, "n0")
		want := impl.Client{Replica: q.replica, Clock: 3, Log: []impl.Op{x, k, y}, Out: []impl.Op{k, y}, Got: 1}
		if got := q.client(impl.WorldRun(script, false)); !sameClient(got, want) {
			t.Errorf("what %s did has come: got %v, want %v", p.name, got, want)
		}
		wantPlayed(t, "what "+p.name+" did comes to "+q.name, script, worldByHand(script, false))
	}
}

// Two hands that each move one node below the other one: the later deed finds
// a loop, in both trees.
func TestBothMoveOneNodeBelowTheOther(t *testing.T) {
	script := slices.Concat(
		bothPlayers()[0].does(moveEvent, 0, 1), bothPlayers()[0].does(sendEvent, 0), bothPlayers()[0].does(upEvent, 0), bothPlayers()[1].fetches(),
		[]int64{ofA(moveEvent, 18), ofB(moveEvent, 13)}, // 2 below 3, and 3 below 2
	)
	x, y := moveOp(1, 1, 2, 0, "n0"), moveOp(2, 1, 3, 0, "n1")
	below, above := moveOp(3, 1, 2, 3, "n0"), moveOp(3, 2, 3, 2, "n1")
	got := impl.WorldRun(script, false)
	if !slices.Equal(got.A.Log, []impl.Op{x, y, below}) || !slices.Equal(got.B.Log, []impl.Op{x, y, above}) {
		t.Errorf("ahead of the end a has %v, b has %v", got.A.Log, got.B.Log)
	}
	wantWorld(t, "one node below the other", script, true, worldByHand(script, true))
	settled := impl.WorldRun(script, true)
	want := treeOf(nodeAt(2, 3, "n0"), nodeAt(3, 0, "n1"))
	for _, p := range bothPlayers() {
		if tree := impl.TreeOf(p.client(settled).Log); !sameTree(tree, want) {
			t.Errorf("%s has another tree: %s", p.name, apart(tree, want))
		}
	}
}
