package tests

import (
	"fmt"
	"math/rand"
	"slices"
	"testing"

	"loop.example/g00378/impl"
)

// post: some replicas that send up to a server, each from a place that may lie
// behind what was seen, ahead of it or at it; if it is not fair, what is sent
// may be wrong.
type post struct {
	r      *rand.Rand
	fair   bool
	server impl.Server
	done   map[int64][]impl.Op // by replicas, whether sent up or not
	codes  map[int64]int
	step   int
}

// act does one more deed of a replica, a few Times behind its last one.
func (p *post) act(replica int64) {
	time := int64(1 + p.r.Intn(3))
	if l := p.done[replica]; len(l) > 0 {
		time += l[len(l)-1].Time
	}
	p.done[replica] = append(p.done[replica], moveOp(time, replica, int64(2+p.r.Intn(9)), 0, "n"))
}

// piece: some of a replica's deeds, and the place of the first of them: mostly
// near the end of what was seen of it.
func (p *post) piece(replica int64) (int, []impl.Op) {
	l := p.done[replica]
	from := p.r.Intn(len(l) + 1)
	if p.r.Intn(4) > 0 {
		from = min(max(0, len(byReplica(p.server.Ops, replica))+p.r.Intn(8)-6), len(l))
	}
	return from, slices.Clone(l[from:][:p.r.Intn(min(9, len(l)-from)+1)])
}

// spoilt: now and then something else than what the replica has to send.
func (p *post) spoilt(from int, replica int64, l []impl.Op) (int, int64, []impl.Op) {
	switch p.r.Intn(12) {
	case 0:
		from += p.r.Intn(4) - 2
	case 1:
		replica = int64(p.r.Intn(53) - 1)
	case 2:
		slices.Reverse(l)
	case 3:
		_, more := p.piece(2)
		l = append(l, more...)
	}
	return from, replica, l
}

func (p *post) send(t *testing.T, replica int64) {
	t.Helper()
	from, l := p.piece(replica)
	if !p.fair {
		from, replica, l = p.spoilt(from, replica, l)
	}
	want := uploadByHand(p.server, replica, int64(from), l)
	got := wantUploaded(t, fmt.Sprint("step ", p.step), p.server, replica, int64(from), l, want)
	p.codes[got.Code]++
	if got.Code == impl.OK {
		p.server = got.Server
	}
}

func (p *post) ask(t *testing.T) {
	t.Helper()
	from, most := int64(p.r.Intn(len(p.server.Ops)+3)-1), int64(p.r.Intn(54)-1)
	want := downloadByHand(p.server, from, most)
	wantDownloaded(t, fmt.Sprint("step ", p.step), p.server, from, most, want)
	if want.Code == impl.OK && most > 0 {
		some := p.r.Intn(int(most) + 1)
		wantInTwoParts(t, p.server, int(from), some, int(most)-some, want.Ops)
	}
}

// wantEachOnce: what the server has of each replica are its first ones, in
// order, and what is sent from the place that it is told goes on from there.
func wantEachOnce(t *testing.T, p post) {
	t.Helper()
	for replica, l := range p.done {
		many := len(byReplica(p.server.Ops, replica))
		if many > len(l) || !slices.Equal(byReplica(p.server.Ops, replica), l[:many]) {
			t.Fatalf("of %d the server has not the first ones in order", replica)
		}
		told := impl.Upload(p.server, replica, int64(many+1), nil)
		if told.Code != impl.ErrRange || told.Many != int64(many) {
			t.Fatalf("of %d it tells %d, code %d, and has %d", replica, told.Many, told.Code, many)
		}
		rest := l[many:min(len(l), many+impl.MaxOps-len(p.server.Ops))]
		got := wantUploaded(t, "the rest", p.server, replica, told.Many, rest, uploadByHand(p.server, replica, told.Many, rest))
		if got.Code != impl.OK || got.Many != int64(many+len(rest)) {
			t.Fatalf("the rest of %d: code %d, Many %d", replica, got.Code, got.Many)
		}
		p.server = got.Server
	}
}

func TestAServerTakesEachDeedOnce(t *testing.T) {
	codes := map[int64]int{}
	for seed := range int64(40) {
		p := post{r: rand.New(rand.NewSource(seed)), fair: seed%2 == 0, done: map[int64][]impl.Op{}, codes: codes}
		for p.step = range 600 {
			replica := []int64{1, 2, 50}[p.r.Intn(3)]
			switch p.r.Intn(3) {
			case 0:
				p.act(replica)
			case 1:
				p.send(t, replica)
			default:
				p.ask(t)
			}
			if t.Failed() {
				t.Fatalf("seed %d, step %d", seed, p.step)
			}
		}
		if p.fair {
			wantEachOnce(t, p)
		}
	}
	for _, code := range []int64{impl.OK, impl.ErrForm, impl.ErrThere, impl.ErrRange, impl.ErrFull} {
		if codes[code] < 20 {
			t.Errorf("the code %d was told only %d times: %v", code, codes[code], codes)
		}
	}
}

func TestToldServerIsNewMemory(t *testing.T) {
	s := midServer()
	l := []impl.Op{moveOp(90, 2, 2, 0, "a_name_"+fmt.Sprint(len(s.Ops))), setOp(91, 2, 2, "a_key_"+fmt.Sprint(len(s.Ops)), "a_value_"+fmt.Sprint(len(s.Ops)))}
	handedIn := deedTexts(slices.Concat(s.Ops, l)...)
	for what, told := range map[string]impl.ServerOut{
		"Upload":         impl.Upload(s, 2, 10, l),
		"Upload of none": impl.Upload(s, 2, 10, nil),
		"Download":       impl.Download(s, 0, 50),
		"of a piece":     impl.Download(s, 7, 9),
	} {
		if told.Code != impl.OK || len(told.Server.Ops)+len(told.Ops) == 0 {
			t.Fatalf("%s: code %d", what, told.Code)
		}
		wantApart(t, what+", the Server", handedIn, deedTexts(told.Server.Ops...))
		wantApart(t, what+", the Ops", handedIn, deedTexts(told.Ops...))
		wantApart(t, what+", the two lists", deedTexts(told.Server.Ops...), deedTexts(told.Ops...))
	}
}

// A hand that sends up what it has in Out, and takes what comes down, has what
// the server has; what it sends once more is not taken twice.
func TestAHandAndAServer(t *testing.T) {
	c := impl.ClientNew(1)
	var s impl.Server
	for i := range int64(12) {
		c = impl.Move(c, 2+i, 0, "a").Client
		if i%3 != 2 {
			continue
		}
		up := impl.Upload(s, 1, c.Acked, c.Out)
		if up.Code != impl.OK || up.Many != i+1 {
			t.Fatalf("%d sent up: code %d, Many %d", len(c.Out), up.Code, up.Many)
		}
		s = up.Server
		if i%2 == 0 { // else Many is lost, and the same goes up once more
			c = impl.Ack(c, up.Many).Client
		}
	}
	if !slices.Equal(s.Ops, c.Log) {
		t.Errorf("the server has %v, the hand did %v", s.Ops, c.Log)
	}
	other := impl.ClientNew(2)
	for got := (impl.ServerOut{Ops: s.Ops}); len(got.Ops) > 0; {
		got = impl.Download(s, other.Got, 5)
		other = impl.Take(other, other.Got, got.Ops).Client
	}
	if !slices.Equal(other.Log, c.Log) || other.Got != 12 {
		t.Errorf("the other hand has %v, Got %d", other.Log, other.Got)
	}
}
