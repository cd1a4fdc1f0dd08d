package tests

import (
	"encoding/binary"
	"hash/crc32"
	"slices"
	"strings"
	"testing"

	"loop.example/g00378/impl"
)

// The bytes of records by hand, also of what may not be.

func numBytesByHand(n int64) string {
	return string(binary.AppendVarint(nil, n))
}

// framed: a record of whatever text, also of one without a seal.
func framed(sealed string) string {
	return numBytesByHand(int64(len(sealed))) + sealed
}

func recordOf(text string) string {
	return framed(sealedByHand(text))
}

func opRecord(o impl.Op) string {
	return recordOf("O" + bytesByHand(1, []impl.Op{o}))
}

func takeRecord(from int64, l ...impl.Op) string {
	return recordOf("T" + numBytesByHand(from) + bytesByHand(int64(len(l)), l))
}

func ackRecord(many int64) string {
	return recordOf("A" + numBytesByHand(many))
}

// emptyTakes: records of eight bytes and, for what is left, of seven that change
// nothing of a new client, so many bytes in all (at least 42).
func emptyTakes(size int) string {
	acks := (8 - size%8) % 8
	return strings.Repeat(ackRecord(0), acks) + strings.Repeat(takeRecord(0), (size-7*acks)/8)
}

// The calls by hand, by the words of chapter 9.

func numByHand(text string) (int64, string, bool) {
	n, size := binary.Varint([]byte(text))
	if size <= 0 || numBytesByHand(n) != text[:size] {
		return 0, "", false
	}
	return n, text[size:], true
}

func textByHand(text string) (string, string, bool) {
	size, rest, ok := numByHand(text)
	if !ok || size < 0 || size > int64(len(rest)) {
		return "", "", false
	}
	return rest[:size], rest[size:], true
}

// deedsByHand: the right deeds whose bytes these are; they are written once
// more, so whatever else was read is seen there.
func deedsByHand(text string) ([]impl.Op, bool) {
	many, rest, ok := numByHand(text)
	var l []impl.Op
	for range min(many, impl.MaxOps) {
		var n [5]int64
		var words [2]string
		for i := range n {
			if ok {
				n[i], rest, ok = numByHand(rest)
			}
		}
		for i := range words {
			if ok {
				words[i], rest, ok = textByHand(rest)
			}
		}
		l = append(l, impl.Op{Time: n[0], Replica: n[1], Kind: n[2], Node: n[3], Parent: n[4], Name: words[0], Value: words[1]})
	}
	return l, ok && impl.OpsRight(l) && bytesByHand(int64(len(l)), l) == text
}

// redoneByHand: what a record makes of a client; false, if it is none, or tells
// a code.
func redoneByHand(c impl.Client, record string) (impl.Client, bool) {
	told := refusedByHand(impl.ErrForm)
	switch {
	case strings.HasPrefix(record, "O"):
		if l, ok := deedsByHand(record[1:]); ok && len(l) == 1 {
			told = actByHand(c, l[0])
			if told.Op != l[0] {
				return c, false
			}
		}
	case strings.HasPrefix(record, "T"):
		if from, rest, ok := numByHand(record[1:]); ok {
			if l, ok := deedsByHand(rest); ok {
				told = takeByHand(c, from, l)
			}
		}
	case strings.HasPrefix(record, "A"):
		if many, rest, ok := numByHand(record[1:]); ok && rest == "" {
			told = ackByHand(c, many)
		}
	}
	if told.Code != impl.OK {
		return c, false
	}
	return told.Client, true
}

func stateByHand(replica int64, log string) impl.StateOut {
	if len(log) > impl.MaxBytes {
		return impl.StateOut{Code: impl.ErrSize}
	}
	if replica < 1 || replica > 50 {
		return impl.StateOut{Code: impl.ErrForm}
	}
	c := impl.Client{Replica: replica}
	for left := log; ; {
		now := impl.StateOut{Client: c, At: int64(len(log) - len(left))}
		sealed, rest, ok := textByHand(left)
		if !ok || len(sealed) < 4 {
			return now
		}
		text := sealed[:len(sealed)-4]
		if binary.LittleEndian.Uint32([]byte(sealed[len(text):])) != crc32.ChecksumIEEE([]byte(text)) {
			return now
		}
		if c, ok = redoneByHand(c, text); !ok {
			return now
		}
		left = rest
	}
}

func journalRightByHand(j impl.Journal, replica int64) bool {
	state := stateByHand(replica, j.Log)
	return state.Code == impl.OK && int(state.At) == len(j.Log) && j.Synced >= 0 && j.Synced <= state.At
}

func syncedByHand(log string) impl.Journal {
	return impl.Journal{Log: log, Synced: int64(len(log))}
}

func notedByHand(j impl.Journal, replica int64, record string) impl.Journal {
	then := syncedByHand(j.Log + record)
	if journalRightByHand(j, replica) && journalRightByHand(then, replica) {
		return then
	}
	return j
}

func crashedByHand(j impl.Journal, keep int64) impl.Journal {
	if j.Synced < 0 || j.Synced > int64(len(j.Log)) {
		return j
	}
	log := j.Log[:j.Synced]
	for ; keep > 0 && len(log) < len(j.Log); keep-- {
		log = j.Log[:len(log)+1]
	}
	return syncedByHand(log)
}

func recoveredByHand(j impl.Journal, replica int64) impl.Journal {
	state := stateByHand(replica, j.Log)
	if state.Code != impl.OK {
		return j
	}
	return syncedByHand(j.Log[:state.At])
}

// What holds of each call, whatever it is given.

func sameState(a, b impl.StateOut) bool {
	return sameClient(a.Client, b.Client) && a.At == b.At && a.Code == b.Code
}

// wantState: also what is asked by hand, that a client is right where there is
// one, and that its lists are apart.
func wantState(t *testing.T, what string, replica int64, log string, want impl.StateOut) {
	t.Helper()
	got := impl.ClientOf(replica, log)
	if !sameState(got, want) {
		t.Errorf("ClientOf, %s, %d bytes of %d: got %v, want %v", what, len(log), replica, got, want)
	}
	if byHand := stateByHand(replica, log); !sameState(byHand, want) {
		t.Errorf("%s, %d bytes of %d: by hand %v, want %v", what, len(log), replica, byHand, want)
	}
	if got.Code == impl.OK && !impl.ClientRight(got.Client) {
		t.Errorf("ClientOf, %s: a client that is not right: %v", what, got.Client)
	}
	l, out := got.Client.Log, slices.Clone(got.Client.Out)
	clear(l[:cap(l)])
	if !slices.Equal(got.Client.Out, out) {
		t.Errorf("ClientOf, %s: Log and Out share memory", what)
	}
}

func wantJournalRight(t *testing.T, what string, j impl.Journal, replica int64, want bool) {
	t.Helper()
	if got := impl.JournalRight(j, replica); got != want {
		t.Errorf("JournalRight, %s, %d bytes, %d Synced, of %d: got %v, want %v", what, len(j.Log), j.Synced, replica, got, want)
	}
	if byHand := journalRightByHand(j, replica); byHand != want {
		t.Errorf("%s, %d bytes, %d Synced, of %d: by hand %v, want %v", what, len(j.Log), j.Synced, replica, byHand, want)
	}
}

// wantJournal holds a journal that was told of another one against what it must
// be; its bytes are its own.
func wantJournal(t *testing.T, what string, j, got, want impl.Journal) {
	t.Helper()
	if got != want {
		t.Errorf("%s, %d bytes, %d Synced: got %d, %d Synced, %.60q, want %d, %d Synced, %.60q",
			what, len(j.Log), j.Synced, len(got.Log), got.Synced, got.Log, len(want.Log), want.Synced, want.Log)
	}
	if got.Log != "" && sharesMemory(j.Log, got.Log) {
		t.Errorf("%s, %d bytes, %d Synced: the told Log shares memory", what, len(j.Log), j.Synced)
	}
}

func wantOpNoted(t *testing.T, what string, j impl.Journal, replica int64, o impl.Op) impl.Journal {
	t.Helper()
	got := impl.NoteOp(j, replica, o)
	wantJournal(t, "NoteOp, "+what, j, got, notedByHand(j, replica, opRecord(o)))
	return got
}

func wantTakeNoted(t *testing.T, what string, j impl.Journal, replica int64, from int64, l []impl.Op) impl.Journal {
	t.Helper()
	l = roomy(l)
	handedIn := wholes(l)
	got := impl.NoteTake(j, replica, from, l)
	want := impl.Journal{}
	if len(l) <= impl.MaxList {
		want = notedByHand(j, replica, takeRecord(from, l...))
	}
	wantJournal(t, "NoteTake, "+what, j, got, want)
	if !sameLists(wholes(l), handedIn) {
		t.Errorf("NoteTake, %s: what is handed in is not as it was", what)
	}
	return got
}

func wantAckNoted(t *testing.T, what string, j impl.Journal, replica int64, many int64) impl.Journal {
	t.Helper()
	got := impl.NoteAck(j, replica, many)
	wantJournal(t, "NoteAck, "+what, j, got, notedByHand(j, replica, ackRecord(many)))
	return got
}

func wantCrashed(t *testing.T, what string, j impl.Journal, keep int64) impl.Journal {
	t.Helper()
	got := impl.JournalCrash(j, keep)
	wantJournal(t, "JournalCrash, "+what, j, got, crashedByHand(j, keep))
	return got
}

// wantRecovered: found again once more it is the same.
func wantRecovered(t *testing.T, what string, j impl.Journal, replica int64) impl.Journal {
	t.Helper()
	got := impl.JournalRecover(j, replica)
	wantJournal(t, "JournalRecover, "+what, j, got, recoveredByHand(j, replica))
	wantJournal(t, "JournalRecover, once more, "+what, got, impl.JournalRecover(got, replica), got)
	return got
}

// A journal of all kinds, and what it makes.

func someDeeds() (x, k, theirs, y impl.Op) {
	return moveOp(1, 1, 2, 0, "x"), setOp(2, 1, 2, "k", "v"), moveOp(5, 2, 3, 2, "theirs"), moveOp(6, 1, 4, 3, "y")
}

func someRecords() []string {
	x, k, theirs, y := someDeeds()
	return []string{opRecord(x), opRecord(k), takeRecord(0, theirs, x), ackRecord(1), opRecord(y), takeRecord(1, x, k), ackRecord(3)}
}

// someClients: the first is the new one, each other one that behind a record.
func someClients() []impl.Client {
	x, k, theirs, y := someDeeds()
	one, two, four := []impl.Op{x}, []impl.Op{x, k}, []impl.Op{x, k, theirs, y}
	return []impl.Client{
		{Replica: 1},
		{Replica: 1, Clock: 1, Log: one, Out: one},
		{Replica: 1, Clock: 2, Log: two, Out: two},
		{Replica: 1, Clock: 5, Log: four[:3], Out: two, Got: 2},
		{Replica: 1, Clock: 5, Log: four[:3], Out: two[1:], Got: 2, Acked: 1},
		{Replica: 1, Clock: 6, Log: four, Out: []impl.Op{k, y}, Got: 2, Acked: 1},
		{Replica: 1, Clock: 6, Log: four, Out: []impl.Op{k, y}, Got: 3, Acked: 1},
		{Replica: 1, Clock: 6, Log: four, Got: 3, Acked: 3},
	}
}

func someLog() string {
	return strings.Join(someRecords(), "")
}

// endsOf: 0, and where each record ends.
func endsOf(records []string) []int {
	ends := []int{0}
	for i, record := range records {
		ends = append(ends, ends[i]+len(record))
	}
	return ends
}
