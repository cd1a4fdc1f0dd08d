package tests

import (
	"fmt"
	"math"
	"strings"
	"testing"

	"loop.example/g00378/impl"
)

// someTexts: logs that are right, and some that are none.
func someTexts() map[string]string {
	return map[string]string{
		"nothing":            "",
		"a byte":             "x",
		"records":            someLog(),
		"a cut record":       someLog()[:40],
		"no records":         "what is no row of records at all",
		"noughts":            strings.Repeat("\x00", 50),
		"MaxBytes":           emptyTakes(impl.MaxBytes),
		"one beyond":         emptyTakes(impl.MaxBytes + 1),
		"far beyond":         strings.Repeat("any text", impl.MaxBytes),
		"a length of no end": "\xff\xff\xff\xff",
	}
}

// someNumbers: edges of a log of so many bytes, of which so many are Synced.
func someNumbers(all, synced int64) []int64 {
	return []int64{
		math.MinInt64, math.MinInt64 + 1, -all - 1, -all, -synced, -2, -1, 0, 1, 2,
		synced - 1, synced, synced + 1, all - synced - 1, all - synced, all - synced + 1, all - 1, all, all + 1,
		impl.MaxBytes, math.MaxInt64 - all, math.MaxInt64 - synced, math.MaxInt64 - 1, math.MaxInt64,
	}
}

func TestCrashes(t *testing.T) {
	for what, log := range someTexts() {
		all := int64(len(log))
		for _, synced := range []int64{0, 1, all / 2, all - 1, all} {
			for _, keep := range someNumbers(all, synced) {
				j := impl.Journal{Log: log, Synced: synced}
				got := wantCrashed(t, fmt.Sprintf("%s, keep %d", what, keep), j, keep)
				if synced > all || synced < 0 {
					continue
				}
				left := min(max(synced, synced+min(max(keep, 0), all)), all)
				if got != syncedByHand(log[:left]) {
					t.Errorf("%s, %d Synced of %d, keep %d: %d are left, %d Synced", what, synced, all, keep, len(got.Log), got.Synced)
				}
			}
		}
	}
}

func TestCrashOfEachKeep(t *testing.T) {
	log := someLog()
	for synced := range len(log) + 1 {
		for keep := -1; keep <= len(log)+1; keep++ {
			wantCrashed(t, fmt.Sprint("keep ", keep), impl.Journal{Log: log, Synced: int64(synced)}, int64(keep))
		}
	}
}

func TestCrashOfWrongSynced(t *testing.T) {
	for what, log := range someTexts() {
		all := int64(len(log))
		for _, synced := range []int64{math.MinInt64, -all - 1, -2, -1, all + 1, all + 2, 10 * impl.MaxBytes, math.MaxInt64} {
			for _, keep := range someNumbers(all, synced) {
				j := impl.Journal{Log: log, Synced: synced}
				if synced > all || synced < 0 {
					wantKeptAsItWas(t, "JournalCrash, "+what, j, wantCrashed(t, what, j, keep))
				}
			}
		}
	}
}

// anySynced: what stands there is not asked for.
func anySynced(log string) []int64 {
	all := int64(len(log))
	return []int64{math.MinInt64, -1, 0, 1, all - 1, all, all + 1, math.MaxInt64}
}

func TestRecoverOfRightLogs(t *testing.T) {
	for _, log := range []string{"", ackRecord(0), someLog(), emptyTakes(impl.MaxBytes - 1), emptyTakes(impl.MaxBytes)} {
		for _, synced := range anySynced(log) {
			got := wantRecovered(t, "a right log", impl.Journal{Log: log, Synced: synced}, 1)
			if got != syncedByHand(log) {
				t.Errorf("of %d bytes, %d Synced, came %d bytes, %d Synced", len(log), synced, len(got.Log), got.Synced)
			}
		}
	}
}

func TestRecoverOfCutLogs(t *testing.T) {
	records := someRecords()
	ends, log, many := endsOf(records), someLog(), 0
	for cut := range len(log) + 1 {
		if many+1 < len(ends) && cut == ends[many+1] {
			many++
		}
		for _, synced := range anySynced(log[:cut]) {
			got := wantRecovered(t, fmt.Sprint("cut at ", cut), impl.Journal{Log: log[:cut], Synced: synced}, 1)
			if got != syncedByHand(log[:ends[many]]) {
				t.Errorf("cut at %d, %d Synced: %d bytes are left, %d Synced, want %d", cut, synced, len(got.Log), got.Synced, ends[many])
			}
		}
	}
}

func TestRecoverOfSpoiltLogs(t *testing.T) {
	records := someRecords()
	ends, log := endsOf(records), someLog()
	for many := range records {
		for at := ends[many]; at < ends[many+1]; at++ {
			spoilt := []byte(log)
			spoilt[at] ^= 1 << (at % 8)
			got := wantRecovered(t, fmt.Sprint("spoilt at ", at), syncedByHand(string(spoilt)), 1)
			if got != syncedByHand(log[:ends[many]]) {
				t.Errorf("spoilt at %d: %d bytes are left, %d Synced, want %d", at, len(got.Log), got.Synced, ends[many])
			}
		}
	}
	for what, text := range someTexts() {
		for _, synced := range anySynced(text) {
			wantRecovered(t, what, impl.Journal{Log: text, Synced: synced}, 1)
		}
	}
	for what, j := range wrongJournals() {
		wantRecovered(t, what, j, 1)
	}
}

func TestRecoverOfGreatLogs(t *testing.T) {
	for _, size := range []int{impl.MaxBytes + 1, impl.MaxBytes + 2, 2 * impl.MaxBytes} {
		for _, log := range []string{emptyTakes(size), strings.Repeat("x", size)} {
			for _, synced := range anySynced(log) {
				j := impl.Journal{Log: log, Synced: synced}
				wantKeptAsItWas(t, "JournalRecover, too long a log", j, wantRecovered(t, "too long a log", j, 1))
			}
		}
	}
	cut := impl.Journal{Log: emptyTakes(impl.MaxBytes-1) + "x", Synced: 9}
	if got := wantRecovered(t, "MaxBytes, the last one is spoilt", cut, 1); len(got.Log) != impl.MaxBytes-1 {
		t.Errorf("of MaxBytes less one there are %d left", len(got.Log))
	}
}

func TestRecoverOfReplicas(t *testing.T) {
	for _, replica := range []int64{math.MinInt64, -1, 0, 1, 2, 50, 51, math.MaxInt64} {
		for _, log := range []string{"", "x", takeRecord(0) + "x", someLog(), someLog() + "x"} {
			for _, synced := range anySynced(log) {
				j := impl.Journal{Log: log, Synced: synced}
				got := wantRecovered(t, fmt.Sprint("of ", replica), j, replica)
				if replica < 1 || replica > 50 {
					wantKeptAsItWas(t, fmt.Sprint("JournalRecover of ", replica), j, got)
				}
			}
		}
	}
	if got := wantRecovered(t, "a log of another", someJournal(), 2); (got != impl.Journal{}) {
		t.Errorf("of a log of another there are %d bytes left, %d Synced", len(got.Log), got.Synced)
	}
}
