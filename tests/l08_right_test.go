package tests

import (
	"fmt"
	"math"
	"strings"
	"testing"

	"loop.example/g00378/impl"
)

func TestSyncedOfRightJournals(t *testing.T) {
	for _, log := range []string{"", ackRecord(0), someLog()} {
		all := int64(len(log))
		for synced := int64(-2); synced <= all+2; synced++ {
			wantJournalRight(t, "a right log", impl.Journal{Log: log, Synced: synced}, 1, synced >= 0 && synced <= all)
		}
		for _, synced := range []int64{math.MinInt64, -all, impl.MaxBytes, math.MaxInt64} {
			right := synced == 0 && all == 0
			wantJournalRight(t, "a Synced far off", impl.Journal{Log: log, Synced: synced}, 1, right)
		}
	}
}

func TestReplicasOfJournals(t *testing.T) {
	for _, replica := range []int64{math.MinInt64, -1, 0, 1, 2, 49, 50, 51, 52, math.MaxInt64} {
		right := replica >= 1 && replica <= 50
		wantJournalRight(t, "no log", impl.Journal{}, replica, right)
		wantJournalRight(t, "an empty take", syncedByHand(takeRecord(0)), replica, right)
		wantJournalRight(t, "an ack", syncedByHand(ackRecord(0)), replica, right)
		wantJournalRight(t, "deeds of the replica 1", syncedByHand(someLog()), replica, replica == 1)
		wantJournalRight(t, "a taken deed of the replica 2", syncedByHand(takeRecord(0, moveOp(5, 2, 3, 0, "x"))), replica, right && replica != 2)
	}
}

func TestGreatJournals(t *testing.T) {
	for size := impl.MaxBytes - 8; size <= impl.MaxBytes+8; size++ {
		log := emptyTakes(size)
		for _, synced := range []int64{0, 7, int64(size)} {
			wantJournalRight(t, "empty takes", impl.Journal{Log: log, Synced: synced}, 3, size <= impl.MaxBytes)
		}
		wantJournalRight(t, "one more than its bytes", impl.Journal{Log: log, Synced: int64(size + 1)}, 3, false)
	}
	wantJournalRight(t, "a far too long log", syncedByHand(emptyTakes(10*impl.MaxBytes)), 3, false)
}

func TestJournalsThatDoNotEnd(t *testing.T) {
	ends := map[int]bool{}
	for _, end := range endsOf(someRecords()) {
		ends[end] = true
	}
	log := someLog()
	for cut := range len(log) + 1 {
		wantJournalRight(t, fmt.Sprint("cut at ", cut), syncedByHand(log[:cut]), 1, ends[cut])
		wantJournalRight(t, fmt.Sprint("cut at ", cut, ", not Synced"), impl.Journal{Log: log[:cut]}, 1, ends[cut])
	}
	for at := range len(log) {
		turned := []byte(log)
		turned[at] ^= 16
		wantJournalRight(t, fmt.Sprint("turned at ", at), syncedByHand(string(turned)), 1, false)
	}
	for _, behind := range []string{"\x00", "x", "\x80", framed(""), recordOf("O"), opRecord(moveOp(9, 1, 2, 0, "x")), ackRecord(4), takeRecord(4), takeRecord(-1)} {
		wantJournalRight(t, fmt.Sprintf("%q behind it", behind), syncedByHand(log+behind), 1, false)
	}
	for _, wrong := range []string{"x", "\x00", strings.Repeat("\x00", 20), strings.Repeat("x", impl.MaxBytes), bytesByHand(1, []impl.Op{moveOp(1, 1, 2, 0, "x")})} {
		wantJournalRight(t, fmt.Sprintf("%.20q alone", wrong), syncedByHand(wrong), 1, false)
		wantJournalRight(t, fmt.Sprintf("%.20q alone, not Synced", wrong), impl.Journal{Log: wrong}, 1, false)
	}
}
