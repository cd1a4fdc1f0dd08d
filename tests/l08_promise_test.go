package tests

import (
	"fmt"
	"math/rand"
	"slices"
	"strings"
	"testing"

	"loop.example/g00378/impl"
)

// diary: a hand that notes what it does; what it asks for may be wrong, and is
// noted all the same. Of each record it is known where it ends, and what the
// client was behind it.
type diary struct {
	r       *rand.Rand
	great   bool // long texts, so that the journal soon is full
	journal impl.Journal
	client  impl.Client
	ends    []int
	was     []impl.Client
	server  []impl.Op
	codes   map[int64]int
	full    int
	crashes int
	step    int
}

func newDiary(seed, replica int64) *diary {
	c := impl.ClientNew(replica)
	return &diary{r: rand.New(rand.NewSource(seed)), great: seed%3 == 0, client: c, ends: []int{0}, was: []impl.Client{c}, codes: map[int64]int{}}
}

func (d *diary) text(short string, most int) string {
	if !d.great {
		return short
	}
	return short + strings.Repeat("z", most-len(short))
}

// keep holds what was noted against what the call told of the client ahead of
// it: one more record, if it tells no code and there is room, else none.
func (d *diary) keep(t *testing.T, told impl.ClientOut, record string, now impl.Journal) {
	t.Helper()
	what := fmt.Sprintf("step %d, code %d", d.step, told.Code)
	d.codes[told.Code]++
	room := len(d.journal.Log)+len(record) <= impl.MaxBytes
	if told.Code == impl.OK && room {
		wantOneMore(t, what, d.journal, now, record)
		d.client, d.ends, d.was = told.Client, append(d.ends, len(now.Log)), append(d.was, told.Client)
	} else {
		wantKeptAsItWas(t, what, d.journal, now)
	}
	if !room {
		d.full++
	}
	d.journal = now
	state := impl.ClientOf(d.client.Replica, now.Log)
	if !sameState(state, impl.StateOut{Client: d.client, At: int64(len(now.Log))}) {
		t.Errorf("%s: ClientOf tells %v, want %v", what, state, d.client)
	}
}

func (d *diary) someNode() int64 {
	return int64(2 + d.r.Intn(6))
}

// act does a deed of its own; one that is refused is noted as it would be.
func (d *diary) act(t *testing.T) {
	t.Helper()
	c := d.client
	o := moveOp(c.Clock+1, c.Replica, d.someNode(), oneOf(d.r, 0, 0, 1, d.someNode(), -1), oneOf(d.r, d.text("a", 20), "n_1", "A"))
	if d.r.Intn(2) == 0 {
		o = setOp(c.Clock+1, c.Replica, d.someNode(), oneOf(d.r, d.text("k", 20), "1"), d.text(fmt.Sprint(d.step), 40))
	}
	told := actByKind(c, o)
	if told.Code == impl.OK && told.Op != o {
		t.Fatalf("step %d: told %+v, want %+v", d.step, told.Op, o)
	}
	d.keep(t, told, opRecord(o), impl.NoteOp(d.journal, c.Replica, o))
}

func actByKind(c impl.Client, o impl.Op) impl.ClientOut {
	if o.Kind == impl.OpMove {
		return impl.Move(c, o.Node, o.Parent, o.Name)
	}
	return impl.Set(c, o.Node, o.Name, o.Value)
}

// others do a deed that the server has behind all its own.
func (d *diary) others() {
	other := d.client.Replica%50 + 1
	time := d.client.Clock + int64(d.r.Intn(5))
	for _, o := range byReplica(d.server, other) {
		time = max(time, o.Time+1)
	}
	d.server = append(d.server, moveOp(max(time, 1), other, d.someNode(), int64(d.r.Intn(2)), d.text("theirs", 20)))
}

func (d *diary) take(t *testing.T) {
	t.Helper()
	c := d.client
	from := oneOf(d.r, c.Got, c.Got, c.Got-1, c.Got-3, c.Got+1)
	l := d.server[max(0, min(int(from), len(d.server))):]
	l = l[:d.r.Intn(len(l)+1)]
	d.keep(t, impl.Take(c, from, l), takeRecord(from, l...), impl.NoteTake(d.journal, c.Replica, from, l))
}

// ack: some of its own have come to the server.
func (d *diary) ack(t *testing.T) {
	t.Helper()
	c := d.client
	some := d.r.Intn(len(c.Out) + 1)
	many := c.Acked + int64(some)
	told, record := impl.Ack(c, many), ackRecord(many)
	if len(d.journal.Log)+len(record) <= impl.MaxBytes {
		d.server = append(d.server, c.Out[:some]...)
	}
	d.keep(t, told, record, impl.NoteAck(d.journal, c.Replica, many))
	wrong := d.client.Acked + int64(oneOf(d.r, -1, len(d.client.Out)+1, 99))
	d.keep(t, impl.Ack(d.client, wrong), ackRecord(wrong), impl.NoteAck(d.journal, c.Replica, wrong))
}

// crash: all up to some record was synced, and of what is behind it something is
// kept. What is found again ends at a record, not ahead of that.
func (d *diary) crash(t *testing.T) {
	t.Helper()
	some := d.r.Intn(len(d.ends))
	if d.r.Intn(3) > 0 {
		some = max(0, len(d.ends)-1-d.r.Intn(4))
	}
	synced := d.ends[some]
	keep := d.r.Intn(len(d.journal.Log)-synced+9) - 3
	ahead := d.journal
	ahead.Synced = int64(synced)
	if !impl.JournalRight(ahead, d.client.Replica) {
		t.Fatalf("step %d: the journal is not right", d.step)
	}
	left := wantCrashed(t, fmt.Sprint("step ", d.step), ahead, int64(keep))
	found := wantRecovered(t, fmt.Sprint("step ", d.step), left, d.client.Replica)
	if !impl.JournalRight(found, d.client.Replica) || !strings.HasPrefix(ahead.Log, found.Log) {
		t.Fatalf("step %d: what is found is not right, or not what was there", d.step)
	}
	at, atEnd := slices.BinarySearch(d.ends, len(found.Log))
	if !atEnd || at < some || len(found.Log) > synced+max(0, keep) {
		t.Fatalf("step %d: %d of %v were synced, %d more kept: %d are found", d.step, synced, d.ends, keep, len(found.Log))
	}
	if at+1 < len(d.ends) && d.ends[at+1] <= synced+keep {
		t.Fatalf("step %d: the record up to %d is lost, though %d are kept", d.step, d.ends[at+1], synced+keep)
	}
	state := impl.ClientOf(d.client.Replica, found.Log)
	if !sameState(state, impl.StateOut{Client: d.was[at], At: int64(len(found.Log))}) {
		t.Fatalf("step %d: found is %v, there was %v", d.step, state, d.was[at])
	}
	d.crashes++
	d.journal, d.client, d.ends, d.was = found, state.Client, d.ends[:at+1], d.was[:at+1]
	d.server = d.server[:d.client.Got] // what is behind that begins anew
}

func TestWhatIsNotedIsWhatWasDone(t *testing.T) {
	codes, full, crashes := map[int64]int{}, 0, 0
	for seed := range int64(10) {
		d := newDiary(seed, []int64{1, 2, 50}[seed%3])
		d.codes = codes
		for d.step = range 180 {
			switch kind := d.r.Intn(100); {
			case kind < 60 || seed%5 == 1 && kind < 71: // one that seldom sends up
				d.act(t)
			case kind < 72:
				d.ack(t)
			case kind < 84:
				d.others()
			case kind < 97 || d.great && kind < 99:
				d.take(t)
			default:
				d.crash(t)
			}
			if t.Failed() {
				t.Fatalf("seed %d, step %d", seed, d.step)
			}
		}
		full, crashes = full+d.full, crashes+d.crashes
	}
	for _, code := range []int64{impl.OK, impl.ErrForm, impl.ErrNone, impl.ErrRange, impl.ErrFull, impl.ErrLoop} {
		if codes[code] < 10 {
			t.Errorf("the code %d was told only %d times: %v", code, codes[code], codes)
		}
	}
	if full < 15 || crashes < 25 {
		t.Errorf("only %d times the journal was full, %d times it crashed", full, crashes)
	}
}

// Wherever Synced is, within a record too, and whatever is kept: what is found
// is what there was at the last record that is whole.
func TestCrashesWherever(t *testing.T) {
	records, clients := someRecords(), someClients()
	ends, log := endsOf(records), someLog()
	for synced := range len(log) + 1 {
		for _, keep := range []int64{-1, 0, 1, 5, 17, 40, int64(len(log))} {
			left := wantCrashed(t, "somewhere", impl.Journal{Log: log, Synced: int64(synced)}, keep)
			found := wantRecovered(t, "somewhere", left, 1)
			at, whole := slices.BinarySearch(ends, len(left.Log))
			if !whole {
				at--
			}
			if found != syncedByHand(log[:ends[at]]) {
				t.Fatalf("%d Synced, keep %d: %d are found, want %d", synced, keep, len(found.Log), ends[at])
			}
			wantState(t, "what is found", 1, found.Log, impl.StateOut{Client: clients[at], At: int64(ends[at])})
		}
	}
}

// A hand that comes back after a crash goes on where it was: what it sends up
// once more is not taken twice.
func TestAHandThatComesBack(t *testing.T) {
	var j impl.Journal
	var s impl.Server
	for i := range int64(20) {
		c := impl.ClientOf(1, j.Log).Client
		o := impl.Move(c, 2+i, 0, "a").Op
		j = impl.NoteOp(j, 1, o)
		c = impl.ClientOf(1, impl.JournalRecover(impl.JournalCrash(j, i), 1).Log).Client
		up := impl.Upload(s, 1, c.Acked, c.Out)
		if up.Code != impl.OK || up.Many != i+1 {
			t.Fatalf("%d sent up: code %d, Many %d", len(c.Out), up.Code, up.Many)
		}
		s = up.Server
		if i%3 == 2 { // else the power goes ahead of the note, and all goes up once more
			j = impl.NoteAck(j, 1, up.Many)
		}
	}
	c := impl.ClientOf(1, j.Log).Client
	if !slices.Equal(s.Ops, c.Log) || len(c.Log) != 20 || c.Acked != 18 {
		t.Errorf("the server has %v, the hand %v, Acked %d", s.Ops, c.Log, c.Acked)
	}
	other := impl.NoteTake(impl.Journal{}, 2, 0, impl.Download(s, 0, 50).Ops)
	if got := impl.ClientOf(2, other.Log); !slices.Equal(got.Client.Log, c.Log) || got.Client.Got != 20 {
		t.Errorf("the other hand has %v, Got %d", got.Client.Log, got.Client.Got)
	}
}
