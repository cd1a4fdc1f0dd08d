package tests

import (
	"fmt"
	"math/rand"
	"slices"
	"testing"

	"loop.example/g00378/impl"
)

// shop: some clients of one server, whose deeds stand as they came; what is
// asked of a client may be wrong, and is held against the second way.
type shop struct {
	r       *rand.Rand
	clients []impl.Client
	server  []impl.Op
	codes   map[int64]int
	step    int
}

func (s *shop) keep(at int, told impl.ClientOut) {
	s.codes[told.Code]++
	if told.Code == impl.OK {
		s.clients[at] = told.Client
	}
}

// oneOf: the last one, which is wrong, now and then only.
func oneOf[T any](r *rand.Rand, l ...T) T {
	if r.Intn(30) == 0 {
		return l[len(l)-1]
	}
	return l[r.Intn(len(l)-1)]
}

// someNode: one of a few numbers, of which the tree soon has most.
func (s *shop) someNode() int64 {
	return int64(2 + s.r.Intn(9))
}

func (s *shop) move(t *testing.T, at int) {
	node, parent, name := oneOf(s.r, s.someNode(), 1), oneOf(s.r, 0, 0, 1, s.someNode(), -1), oneOf(s.r, "a", "n_1", "A")
	c := s.clients[at]
	want := actByHand(c, mv(node, parent, name))
	s.keep(at, wantMoved(t, fmt.Sprint("step ", s.step), c, node, parent, name, want))
}

func (s *shop) set(t *testing.T, at int) {
	node, key, value := oneOf(s.r, s.someNode(), 0), oneOf(s.r, "k", "key", "1"), fmt.Sprint(s.step)
	c := s.clients[at]
	want := actByHand(c, set(node, key, value))
	s.keep(at, wantSet(t, fmt.Sprint("step ", s.step), c, node, key, value, want))
}

// send puts some of Out to the server, and acks them, or a number near it.
func (s *shop) send(t *testing.T, at int) {
	c := s.clients[at]
	many := s.r.Intn(len(c.Out) + 1)
	if len(s.server)+many > impl.MaxOps {
		many = 0
	}
	s.server = append(s.server, c.Out[:many]...)
	s.keep(at, wantAcked(t, fmt.Sprint("step ", s.step), c, c.Acked+int64(many), ackByHand(c, c.Acked+int64(many))))
	wrong := c.Acked + int64(len(c.Out)+1+s.r.Intn(3))
	s.keep(at, wantAcked(t, fmt.Sprint("step ", s.step, ", too many"), s.clients[at], wrong, ackByHand(s.clients[at], wrong)))
}

// bring takes a piece of the server's deeds, from a place that may be behind
// Got, ahead of it or at it.
func (s *shop) bring(t *testing.T, at int) {
	c := s.clients[at]
	from := int(oneOf(s.r, c.Got, c.Got, c.Got-1, c.Got-int64(s.r.Intn(9)), c.Got+1))
	piece := s.server[max(0, min(from, len(s.server))):]
	piece = piece[:s.r.Intn(len(piece)+1)]
	s.keep(at, wantTaken(t, fmt.Sprint("step ", s.step), c, int64(from), piece, takeByHand(c, int64(from), piece)))
}

func TestARightClientStaysRight(t *testing.T) {
	codes := map[int64]int{}
	for seed := range int64(60) {
		s := shop{r: rand.New(rand.NewSource(seed)), clients: []impl.Client{impl.ClientNew(1), impl.ClientNew(2), impl.ClientNew(50)}, codes: codes}
		long := int(seed % 3) // how often it is synced
		for s.step = range 250 {
			at := s.r.Intn(len(s.clients))
			switch kind := s.r.Intn(8 + 4*long); {
			case kind == 0:
				s.send(t, at)
			case kind < 3:
				s.bring(t, at)
			case kind < 5:
				s.set(t, at)
			default:
				s.move(t, at)
			}
			if t.Failed() {
				t.Fatalf("seed %d, step %d", seed, s.step)
			}
		}
	}
	for _, code := range []int64{impl.OK, impl.ErrForm, impl.ErrNone, impl.ErrRange, impl.ErrFull, impl.ErrLoop} {
		if codes[code] < 20 {
			t.Errorf("the code %d was told only %d times: %v", code, codes[code], codes)
		}
	}
}

// Who does a deed behind one that he took stamps it behind that: so what he
// moves is where he moved it, also in all that have both.
func TestTheClockGoesOn(t *testing.T) {
	c := impl.ClientNew(1)
	for i := range int64(20) {
		other := moveOp(c.Clock+i*3+1, 2+i%3, 2, 0, "theirs")
		told := wantTaken(t, "theirs", c, i, []impl.Op{other}, takeByHand(c, i, []impl.Op{other}))
		moved := wantMoved(t, "ours", told.Client, 2, i%2, "ours", actByHand(told.Client, mv(2, i%2, "ours")))
		if moved.Op.Time != other.Time+1 || moved.Client.Clock != moved.Op.Time {
			t.Fatalf("behind %d came %d at %d", other.Time, moved.Op.Time, moved.Client.Clock)
		}
		c = moved.Client
	}
}

func deedTexts(l ...impl.Op) []string {
	var texts []string
	for _, o := range l {
		texts = append(texts, o.Name, o.Value)
	}
	return texts
}

func wantApart(t *testing.T, what string, a, b []string) {
	t.Helper()
	for _, x := range a {
		for _, y := range b {
			if sharesMemory(x, y) || sharesMemory(y, x) {
				t.Fatalf("%s: the text %q shares memory", what, y)
			}
		}
	}
}

func TestToldClientIsNewMemory(t *testing.T) {
	c := clientOf(2, manyOps(30), 4)
	name, key, value := "a_name_"+fmt.Sprint(len(c.Log)), "a_key_"+fmt.Sprint(len(c.Log)), "a_value_"+fmt.Sprint(len(c.Log))
	more := []impl.Op{moveOp(1, 9, 2, 0, "b_"+name), setOp(99, 9, 2, "b_"+key, "b_"+value), c.Log[4], c.Log[7]}
	handedIn := append(deedTexts(slices.Concat(c.Log, c.Out, more)...), name, key, value)
	for what, told := range map[string]impl.ClientOut{
		"Move": impl.Move(c, 900, 0, name),
		"Set":  impl.Set(c, 2, key, value),
		"Take": impl.Take(c, 0, more),
		"Ack":  impl.Ack(c, 7),
	} {
		if told.Code != impl.OK {
			t.Fatalf("%s: code %d", what, told.Code)
		}
		log, out := deedTexts(told.Client.Log...), deedTexts(told.Client.Out...)
		wantApart(t, what+", the Log", handedIn, log)
		wantApart(t, what+", Out", handedIn, out)
		wantApart(t, what+", the Op", handedIn, deedTexts(told.Op))
		wantApart(t, what+", Log and Out", log, out)
		wantApart(t, what+", Log and Op", log, deedTexts(told.Op))
		wantApart(t, what+", Out and Op", out, deedTexts(told.Op))
	}
}
