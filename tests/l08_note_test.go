package tests

import (
	"fmt"
	"math"
	"slices"
	"strings"
	"testing"

	"loop.example/g00378/impl"
)

func someJournal() impl.Journal {
	return syncedByHand(someLog())
}

// wantKeptAsItWas: a note that was refused.
func wantKeptAsItWas(t *testing.T, what string, was, now impl.Journal) {
	t.Helper()
	if now != was {
		t.Errorf("%s: of %d bytes, %d Synced, came %d bytes, %d Synced", what, len(was.Log), was.Synced, len(now.Log), now.Synced)
	}
}

func wantOneMore(t *testing.T, what string, was, now impl.Journal, record string) {
	t.Helper()
	if now != syncedByHand(was.Log+record) {
		t.Errorf("%s: behind %d bytes, %d Synced, came %d bytes, %d Synced: %.60q", what, len(was.Log), was.Synced, len(now.Log), now.Synced, now.Log)
	}
}

// Whatever was Synced, all is Synced then.
func TestNotesThatAreTaken(t *testing.T) {
	j := someJournal()
	for _, synced := range []int64{0, 1, 20, int64(len(j.Log) - 1), int64(len(j.Log))} {
		j.Synced = synced
		for what, o := range map[string]impl.Op{
			"a move":          moveOp(7, 1, 9, 4, "new"),
			"a move back":     moveOp(7, 1, 2, 1, "x"),
			"a set":           setOp(7, 1, 3, "k", "v"),
			"an empty value":  setOp(7, 1, 2, "k", ""),
			"bytes of no sum": setOp(7, 1, 2, "k", "\x00\xff\x80"),
		} {
			wantOneMore(t, "NoteOp, "+what, j, wantOpNoted(t, what, j, 1, o), opRecord(o))
		}
		for what, l := range map[string][]impl.Op{"none": nil, "one": {moveOp(1, 3, 5, 0, "x")}, "two": {moveOp(9, 3, 5, 0, "x"), setOp(8, 3, 2, "k", "")}} {
			for from := range int64(4) {
				wantOneMore(t, "NoteTake, "+what, j, wantTakeNoted(t, what, j, 1, from, l), takeRecord(from, l...))
			}
			wantKeptAsItWas(t, "NoteTake, beyond Got", j, wantTakeNoted(t, what, j, 1, 4, l))
			wantKeptAsItWas(t, "NoteTake, below 0", j, wantTakeNoted(t, what, j, 1, -1, l))
		}
		wantOneMore(t, "NoteAck", j, wantAckNoted(t, "as many as there are", j, 1, 3), ackRecord(3))
		wantKeptAsItWas(t, "NoteAck", j, wantAckNoted(t, "one less", j, 1, 2))
		wantKeptAsItWas(t, "NoteAck", j, wantAckNoted(t, "one more", j, 1, 4))
	}
	for _, replica := range []int64{1, 2, 50} {
		o := moveOp(1, replica, 2, 0, "x")
		wantOneMore(t, "NoteOp, to none", impl.Journal{}, wantOpNoted(t, "to none", impl.Journal{}, replica, o), opRecord(o))
		wantOneMore(t, "NoteTake, to none", impl.Journal{}, wantTakeNoted(t, "to none", impl.Journal{}, replica, 0, nil), takeRecord(0))
		wantOneMore(t, "NoteAck, to none", impl.Journal{}, wantAckNoted(t, "to none", impl.Journal{}, replica, 0), ackRecord(0))
	}
}

func TestNotesThatAreRefused(t *testing.T) {
	j := someJournal()
	j.Synced = 20
	for what, o := range map[string]impl.Op{
		"the zero Op":      {},
		"an earlier Time":  moveOp(6, 1, 9, 0, "x"),
		"a later Time":     moveOp(8, 1, 9, 0, "x"),
		"another replica":  moveOp(7, 2, 9, 0, "x"),
		"no kind":          {Time: 7, Replica: 1, Node: 9, Name: "x"},
		"no parent":        moveOp(7, 1, 9, 8, "x"),
		"below itself":     moveOp(7, 1, 2, 4, "x"),
		"no node":          setOp(7, 1, 9, "k", "v"),
		"a great name":     moveOp(7, 1, 9, 0, strings.Repeat("x", impl.MaxBytes)),
		"a greater name":   moveOp(7, 1, 9, 0, strings.Repeat("x", impl.MaxBytes+1)),
		"a greater value":  setOp(7, 1, 2, "k", strings.Repeat("x", impl.MaxBytes+1)),
		"a move's value":   {Time: 7, Replica: 1, Kind: impl.OpMove, Node: 9, Name: "x", Value: "v"},
		"the greatest":     {Time: math.MaxInt64, Replica: math.MaxInt64, Kind: math.MaxInt64, Node: math.MaxInt64, Parent: math.MaxInt64},
		"the least":        {Time: math.MinInt64, Replica: math.MinInt64, Kind: math.MinInt64, Node: math.MinInt64, Parent: math.MinInt64},
		"one of its own":   moveOp(6, 1, 4, 3, "y"),
		"of another's own": moveOp(5, 2, 3, 2, "theirs"),
	} {
		wantKeptAsItWas(t, "NoteOp, "+what, j, wantOpNoted(t, what, j, 1, o))
	}
	for what, l := range map[string][]impl.Op{
		"the zero Op":              {{}},
		"one twice":                {moveOp(9, 3, 5, 0, "x"), moveOp(9, 3, 5, 0, "x")},
		"another deed of a stamp":  {setOp(5, 2, 3, "k", "")},
		"its own that is not done": {moveOp(9, 1, 5, 0, "x")},
		"one beyond the log":       lateOps(3, 1, impl.MaxOps-3),
		"one more than MaxOps":     lateOps(3, 1, impl.MaxOps+1),
		"MaxList":                  lateOps(3, 1, impl.MaxList),
		"wrong ones, MaxList":      make([]impl.Op, impl.MaxList),
	} {
		wantKeptAsItWas(t, "NoteTake, "+what, j, wantTakeNoted(t, what, j, 1, 3, l))
	}
	fits := lateOps(3, 1, impl.MaxOps-4)
	wantOneMore(t, "NoteTake, up to MaxOps", j, wantTakeNoted(t, "up to MaxOps", j, 1, 3, fits), takeRecord(3, fits...))
	for _, from := range []int64{math.MinInt64, -1, 4, impl.MaxTime, impl.MaxTime + 1, math.MaxInt64} {
		wantKeptAsItWas(t, "NoteTake", j, wantTakeNoted(t, fmt.Sprint("from ", from), j, 1, from, nil))
	}
	for _, many := range []int64{math.MinInt64, -3, -1, 0, 1, 2, 4, impl.MaxTime, math.MaxInt64} {
		wantKeptAsItWas(t, "NoteAck", j, wantAckNoted(t, fmt.Sprint("of ", many), j, 1, many))
	}
}

// A list beyond MaxList is refused by the call, ahead of all else, with the
// zero answer.
func TestNotesOfListsBeyondMaxList(t *testing.T) {
	for _, many := range []int{impl.MaxList + 1, 1000} {
		for _, l := range [][]impl.Op{lateOps(3, 1, many), make([]impl.Op, many)} {
			for _, j := range []impl.Journal{{}, someJournal(), {Log: "x", Synced: 9}, syncedByHand(emptyTakes(impl.MaxBytes + 1))} {
				for _, replica := range []int64{0, 1, 51} {
					for _, from := range []int64{-1, 0, 3} {
						wantKeptAsItWas(t, "NoteTake", impl.Journal{}, wantTakeNoted(t, "beyond MaxList", j, replica, from, l))
					}
				}
			}
		}
	}
}

// wrongJournals: of the replica 1 none of them is right, each for one reason.
func wrongJournals() map[string]impl.Journal {
	log := someLog()
	spoilt := []byte(log)
	spoilt[len(spoilt)-1]++
	return map[string]impl.Journal{
		"Synced below 0":           {Log: log, Synced: -1},
		"Synced beyond":            {Log: log, Synced: int64(len(log) + 1)},
		"Synced beyond none":       {Synced: 1},
		"the least Synced":         {Log: log, Synced: math.MinInt64},
		"the greatest Synced":      {Log: log, Synced: math.MaxInt64},
		"one byte":                 {Log: "x"},
		"a byte behind":            syncedByHand(log + "\x00"),
		"a byte that lacks":        syncedByHand(log[:len(log)-1]),
		"a record cut by half":     syncedByHand(log + opRecord(moveOp(7, 1, 9, 0, "x"))[:8]),
		"a spoilt seal":            syncedByHand(string(spoilt)),
		"a record that tells code": syncedByHand(log + ackRecord(9)),
		"another's log":            syncedByHand(opRecord(moveOp(1, 2, 2, 0, "x"))),
		"too long a log":           syncedByHand(emptyTakes(impl.MaxBytes + 1)),
		"a far too long log":       {Log: strings.Repeat("x", 3*impl.MaxBytes), Synced: 5},
	}
}

func TestNotesToWrongJournals(t *testing.T) {
	x, _, theirs, _ := someDeeds()
	for what, j := range wrongJournals() {
		wantJournalRight(t, what, j, 1, false)
		for _, o := range []impl.Op{x, moveOp(7, 1, 9, 0, "x"), {}} {
			wantKeptAsItWas(t, "NoteOp, "+what, j, wantOpNoted(t, what, j, 1, o))
		}
		for _, l := range [][]impl.Op{nil, {theirs}, {{}}} {
			wantKeptAsItWas(t, "NoteTake, "+what, j, wantTakeNoted(t, what, j, 1, 0, l))
		}
		for _, many := range []int64{-1, 0, 1, 3} {
			wantKeptAsItWas(t, "NoteAck, "+what, j, wantAckNoted(t, what, j, 1, many))
		}
	}
	for _, replica := range []int64{math.MinInt64, -1, 0, 51, math.MaxInt64} {
		for what, j := range map[string]impl.Journal{"no journal": {}, "a journal": someJournal(), "no record": {Log: "x"}} {
			wantKeptAsItWas(t, "NoteOp, "+what, j, wantOpNoted(t, what, j, replica, moveOp(7, replica, 9, 0, "x")))
			wantKeptAsItWas(t, "NoteOp, of 1, "+what, j, wantOpNoted(t, what, j, replica, x))
			wantKeptAsItWas(t, "NoteTake, "+what, j, wantTakeNoted(t, what, j, replica, 0, nil))
			wantKeptAsItWas(t, "NoteAck, "+what, j, wantAckNoted(t, what, j, replica, 0))
		}
	}
}

// A record that would end what the log's last bytes only begin is not put
// there: the log must be right as it is.
func TestNoteDoesNotMendALog(t *testing.T) {
	inner := ackRecord(0)
	begin := numBytesByHand(int64(len(inner) + 1))
	for _, begin := range []string{begin, begin + "\x00", "\x14", "\x10A"} {
		j := syncedByHand(someLog() + begin)
		wantKeptAsItWas(t, "NoteAck", j, wantAckNoted(t, "behind a beginning", j, 1, 3))
		wantKeptAsItWas(t, "NoteTake", j, wantTakeNoted(t, "behind a beginning", j, 1, 0, nil))
	}
}

// A journal takes what brings it to MaxBytes bytes, and nothing beyond.
func TestNotesAtMaxBytes(t *testing.T) {
	o := moveOp(1, 7, 2, 0, "x")
	theirs := moveOp(1, 8, 2, 0, "x")
	for size := impl.MaxBytes - 24; size <= impl.MaxBytes; size++ {
		j := syncedByHand(emptyTakes(size))
		for what, c := range map[string]struct {
			note   func() impl.Journal
			record string
		}{
			"an Op":   {func() impl.Journal { return wantOpNoted(t, "near MaxBytes", j, 7, o) }, opRecord(o)},
			"a Take":  {func() impl.Journal { return wantTakeNoted(t, "near MaxBytes", j, 7, 0, []impl.Op{theirs}) }, takeRecord(0, theirs)},
			"no Take": {func() impl.Journal { return wantTakeNoted(t, "near MaxBytes", j, 7, 0, nil) }, takeRecord(0)},
			"an Ack":  {func() impl.Journal { return wantAckNoted(t, "near MaxBytes", j, 7, 0) }, ackRecord(0)},
		} {
			what = fmt.Sprintf("%s of %d bytes behind %d", what, len(c.record), size)
			if size+len(c.record) <= impl.MaxBytes {
				wantOneMore(t, what, j, c.note(), c.record)
			} else {
				wantKeptAsItWas(t, what, j, c.note())
			}
		}
	}
}

// greatTake: deeds of so many bytes in all, near what OpsBytes takes.
func greatTake(t *testing.T, size int) []impl.Op {
	t.Helper()
	l := append(greatOps(112), setOp(1, 1, 2, "k", ""))
	l[112].Replica = 2
	l[112].Value = strings.Repeat("v", size-len(bytesByHand(113, l)))
	if got := len(bytesByHand(113, l)); got != size || !impl.OpsRight(l) {
		t.Fatalf("the deeds of this test have %d bytes, not %d", got, size)
	}
	return l
}

// Two bytes of length, one of kind, one of from, four of the seal: eight beside
// the deeds. They may also be too great for a seal, a text or OpsBytes.
func TestNotesOfGreatTakes(t *testing.T) {
	for size := impl.MaxBytes - 20; size <= impl.MaxBytes+2; size++ {
		l := greatTake(t, size)
		what := fmt.Sprint("deeds of ", size, " bytes")
		got := wantTakeNoted(t, what, impl.Journal{}, 1, 0, l)
		if size <= impl.MaxBytes-8 {
			wantOneMore(t, what, impl.Journal{}, got, takeRecord(0, l...))
		} else {
			wantKeptAsItWas(t, what, impl.Journal{}, got)
		}
		j := syncedByHand(ackRecord(0))
		got = wantTakeNoted(t, what+", behind an Ack", j, 1, 0, l)
		if size > impl.MaxBytes-15 {
			wantKeptAsItWas(t, what+", behind an Ack", j, got)
		}
	}
	for _, many := range []int{impl.MaxOps, impl.MaxOps + 1, impl.MaxList} {
		l := lateOps(3, 1, many)
		got := wantTakeNoted(t, "many", impl.Journal{}, 1, 0, l)
		if (got == impl.Journal{}) != (many > impl.MaxOps) {
			t.Errorf("of %d deeds came %d bytes", many, len(got.Log))
		}
		slices.Reverse(l)
		wantTakeNoted(t, "many, turned round", impl.Journal{}, 1, 0, l)
	}
	wantKeptAsItWas(t, "MaxOps of the greatest", impl.Journal{}, wantTakeNoted(t, "MaxOps of the greatest", impl.Journal{}, 1, 0, greatOps(impl.MaxOps)))
}
