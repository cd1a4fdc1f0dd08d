package tests

import (
	"fmt"
	"math"
	"math/rand"
	"strings"
	"testing"

	"loop.example/g00378/impl"
)

func TestClientOfAllKinds(t *testing.T) {
	records, clients := someRecords(), someClients()
	for many, at := range endsOf(records) {
		log := strings.Join(records[:many], "")
		wantState(t, fmt.Sprint(many, " records"), 1, log, impl.StateOut{Client: clients[many], At: int64(at)})
	}
}

func TestReplicasOfClientOf(t *testing.T) {
	for _, replica := range []int64{math.MinInt64, -1, 0, 1, 2, 49, 50, 51, 52, math.MaxInt64} {
		own := impl.StateOut{Code: impl.ErrForm}
		empty, log := own, ""
		if replica >= 1 && replica <= 50 {
			o := moveOp(1, replica, 2, 0, "x")
			log = opRecord(o)
			empty = impl.StateOut{Client: impl.Client{Replica: replica}}
			own = impl.StateOut{Client: impl.Client{Replica: replica, Clock: 1, Log: []impl.Op{o}, Out: []impl.Op{o}}, At: int64(len(log))}
		}
		wantState(t, "an empty log", replica, "", empty)
		wantState(t, "its own move", replica, log, own)
		wantState(t, "no record", replica, "x", empty)
		wantState(t, "too long a log", replica, emptyTakes(impl.MaxBytes+1), impl.StateOut{Code: impl.ErrSize})
		wantState(t, "too long a text", replica, strings.Repeat("x", 3*impl.MaxBytes), impl.StateOut{Code: impl.ErrSize})
		if replica != 1 {
			wantState(t, "a log of another", replica, someLog(), empty)
		}
	}
}

func TestClientOfMaxBytes(t *testing.T) {
	for size := impl.MaxBytes - 9; size <= impl.MaxBytes; size++ {
		log := emptyTakes(size)
		if len(log) != size {
			t.Fatalf("the log of this test has %d bytes", len(log))
		}
		wantState(t, "empty takes", 7, log, impl.StateOut{Client: impl.Client{Replica: 7}, At: int64(size)})
	}
}

// MaxOps deeds of its own, each acked, but for the last ones.
func TestClientOfMaxOps(t *testing.T) {
	c := impl.Client{Replica: 50}
	log := ""
	for i := range int64(impl.MaxOps) {
		o := moveOp(i+1, 50, 2+i, max(i, 1), "n")
		log += opRecord(o)
		c.Log, c.Clock = append(c.Log, o), i+1
		if i < impl.MaxOps-impl.MaxOut {
			log += ackRecord(i + 1)
			c.Acked = i + 1
		}
	}
	c.Out = c.Log[c.Acked:]
	full := impl.StateOut{Client: c, At: int64(len(log))}
	wantState(t, "MaxOps", 50, log, full)
	beyond := moveOp(impl.MaxOps+1, 50, 2, 0, "n")
	wantState(t, "MaxOps, and MaxOut", 50, log+opRecord(beyond), full)
	acked := changed(c, func(c *impl.Client) { c.Acked, c.Out = impl.MaxOps, nil })
	log += ackRecord(impl.MaxOps)
	wantState(t, "MaxOps, and one more", 50, log+opRecord(beyond), impl.StateOut{Client: acked, At: int64(len(log))})
}

// Wherever a log is cut, what was whole is gone through.
func TestClientOfCutLog(t *testing.T) {
	records, clients := someRecords(), someClients()
	ends := endsOf(records)
	log, many := someLog(), 0
	for cut := range len(log) + 1 {
		if many+1 < len(ends) && cut == ends[many+1] {
			many++
		}
		want := impl.StateOut{Client: clients[many], At: int64(ends[many])}
		wantState(t, fmt.Sprint("cut at ", cut), 1, log[:cut], want)
		for _, behind := range []string{"\x00", "x", "\x80", "\xff\xff\xff\xff", strings.Repeat("\x00", 40)} {
			wantState(t, fmt.Sprintf("cut at %d, and %q", cut, behind), 1, log[:cut]+behind, stateByHand(1, log[:cut]+behind))
		}
	}
	if many != len(records) {
		t.Errorf("only %d records were come to", many)
	}
}

// Whatever byte is turned, it is gone on up to its record.
func TestClientOfTurnedByte(t *testing.T) {
	records, clients := someRecords(), someClients()
	ends, log := endsOf(records), someLog()
	for many := range records {
		want := impl.StateOut{Client: clients[many], At: int64(ends[many])}
		for at := ends[many]; at < ends[many+1]; at++ {
			for by := 1; by < 256; by += 3 {
				turned := []byte(log)
				turned[at] ^= byte(by)
				if got := impl.ClientOf(1, string(turned)); !sameState(got, want) {
					t.Fatalf("the byte %d turned by %d: got %+v, want %+v", at, by, got, want)
				}
			}
		}
	}
}

// wantStops: behind a move it is gone no further than to a record, whatever
// stands behind that.
func wantStops(t *testing.T, what string, record string) {
	t.Helper()
	x, k, _, _ := someDeeds()
	c := someClients()[1]
	ahead := opRecord(x)
	want := impl.StateOut{Client: c, At: int64(len(ahead))}
	wantState(t, what, 1, ahead+record, want)
	for _, behind := range []string{opRecord(k), ackRecord(1), ackRecord(0), takeRecord(0), takeRecord(0, x)} {
		wantState(t, what+", and one behind it", 1, ahead+record+behind, want)
	}
}

func TestWhatIsNoRecord(t *testing.T) {
	_, k, _, _ := someDeeds()
	text := "O" + bytesByHand(1, []impl.Op{k})
	sealed := sealedByHand(text)
	for what, record := range map[string]string{
		"a length of 0":               framed(""),
		"three bytes":                 framed("\x00\x00\x00"),
		"the seal of no text":         recordOf(""),
		"no seal":                     framed(text),
		"the seal of another text":    framed(text + sealedByHand("x" + text)[len(text)+1:]),
		"a seal of all ones":          framed(text + "\xff\xff\xff\xff"),
		"a seal turned round":         framed(text + string([]byte{sealed[len(text)+3], sealed[len(text)+2], sealed[len(text)+1], sealed[len(text)]})),
		"a byte behind the seal":      framed(sealed + "\x00"),
		"a byte of the seal lacks":    framed(sealed[:len(sealed)-1]),
		"a length of one less":        numBytesByHand(int64(len(sealed)-1)) + sealed,
		"a length of one more":        numBytesByHand(int64(len(sealed)+1)) + sealed,
		"a length below 0":            numBytesByHand(int64(-len(sealed))) + sealed,
		"the least length":            numBytesByHand(math.MinInt64) + sealed,
		"the greatest length":         numBytesByHand(math.MaxInt64) + sealed,
		"MaxBytes as length":          numBytesByHand(impl.MaxBytes) + sealed,
		"a length of a byte too many": string([]byte{byte(2*len(sealed)) | 128, 0}) + sealed,
		"a length that does not end":  strings.Repeat("\xff", 11) + sealed,
		"no length":                   sealed,
		"a seal twice":                recordOf(sealed),
		"a record in a record":        recordOf(opRecord(k)),
	} {
		wantStops(t, what, record)
	}
}

func TestFirstBytes(t *testing.T) {
	x, k, _, _ := someDeeds()
	for b := range 256 {
		if b == 'O' || b == 'T' || b == 'A' {
			continue
		}
		first := string([]byte{byte(b)})
		for _, rest := range []string{"", bytesByHand(1, []impl.Op{k}), "\x00" + bytesByHand(1, []impl.Op{x}), "\x00" + bytesByHand(0, nil), "\x00", "\x02", "A\x00"} {
			wantStops(t, fmt.Sprintf("the first byte %d, %q", b, rest), recordOf(first+rest))
		}
	}
	for _, text := range []string{"O", "T", "A", "OO", "o", "t", "a", "\x00"} {
		wantStops(t, fmt.Sprintf("%q alone", text), recordOf(text))
	}
}

func TestBytesOfANotedOp(t *testing.T) {
	_, k, _, _ := someDeeds()
	next := moveOp(3, 1, 3, 0, "y")
	right := bytesByHand(1, []impl.Op{k})
	for what, bytes := range map[string]string{
		"no Op":                     bytesByHand(0, nil),
		"no Op, and one behind it":  bytesByHand(0, []impl.Op{k}),
		"two":                       bytesByHand(2, []impl.Op{k, next}),
		"one, and one behind it":    bytesByHand(1, []impl.Op{k, next}),
		"one twice":                 bytesByHand(2, []impl.Op{k, k}),
		"two of which one is there": bytesByHand(2, []impl.Op{k}),
		"below 0":                   bytesByHand(-1, []impl.Op{k}),
		"a byte behind it":          right + "\x00",
		"a byte lacks":              right[:len(right)-1],
		"a number of two bytes":     "\x82\x00" + right[1:],
		"a from ahead of it":        "\x00" + right,
		"the zero Op":               bytesByHand(1, make([]impl.Op, 1)),
		"a name in capitals":        bytesByHand(1, []impl.Op{setOp(2, 1, 2, "K", "v")}),
		"a set with a parent":       bytesByHand(1, []impl.Op{{Time: 2, Replica: 1, Kind: impl.OpSet, Node: 2, Parent: 2, Name: "k"}}),
		"a move with a value":       bytesByHand(1, []impl.Op{{Time: 2, Replica: 1, Kind: impl.OpMove, Node: 2, Name: "k", Value: "v"}}),
		"no kind":                   bytesByHand(1, []impl.Op{{Time: 2, Replica: 1, Kind: 3, Node: 2, Name: "k"}}),
	} {
		wantStops(t, what, recordOf("O"+bytes))
	}
}

// A deed must be the one that the client then does.
func TestNotedOpIsThatOfTheClient(t *testing.T) {
	for what, o := range map[string]impl.Op{
		"an earlier Time":         setOp(1, 1, 2, "k", "v"),
		"a later Time":            setOp(3, 1, 2, "k", "v"),
		"a later move":            moveOp(3, 1, 3, 0, "y"),
		"MaxTime":                 setOp(impl.MaxTime, 1, 2, "k", "v"),
		"another replica":         setOp(2, 2, 2, "k", "v"),
		"another replica's move":  moveOp(2, 50, 3, 0, "y"),
		"the same move once more": moveOp(1, 1, 2, 0, "x"),
	} {
		wantStops(t, what, opRecord(o))
	}
	for what, o := range map[string]impl.Op{
		"a node that is none":          setOp(2, 1, 3, "k", "v"),
		"a parent that is none":        moveOp(2, 1, 3, 4, "y"),
		"a node below itself":          moveOp(2, 1, 2, 2, "x"),
		"a new node below itself":      moveOp(2, 1, 3, 3, "x"),
		"a set of the root":            setOp(2, 1, 0, "k", "v"),
		"a move of the trash":          moveOp(2, 1, 1, 0, "x"),
		"a parent below 0":             moveOp(2, 1, 3, -1, "x"),
		"a value of 41 bytes":          setOp(2, 1, 2, "k", strings.Repeat("v", 41)),
		"a name of 21 bytes":           moveOp(2, 1, 3, 0, strings.Repeat("x", 21)),
		"a node's number beyond":       moveOp(2, 1, impl.MaxTime+1, 0, "x"),
		"the next Time, of no replica": moveOp(2, 0, 3, 0, "x"),
	} {
		wantStops(t, what, opRecord(o))
	}
	x, _, _, _ := someDeeds()
	late := moveOp(impl.MaxTime, 9, 5, 0, "late")
	ahead := opRecord(x) + takeRecord(0, late)
	want := impl.StateOut{Client: impl.Client{Replica: 1, Clock: impl.MaxTime, Log: []impl.Op{x, late}, Out: []impl.Op{x}, Got: 1}, At: int64(len(ahead))}
	for _, o := range []impl.Op{moveOp(impl.MaxTime, 1, 3, 0, "y"), moveOp(impl.MaxTime+1, 1, 3, 0, "y"), moveOp(2, 1, 3, 0, "y")} {
		wantState(t, "behind the last Time", 1, ahead+opRecord(o), want)
	}
}

func TestBytesOfANotedTake(t *testing.T) {
	x, k, theirs, _ := someDeeds()
	right := bytesByHand(1, []impl.Op{theirs})
	for what, bytes := range map[string]string{
		"no from":                   "",
		"a from alone":              "\x00",
		"a from that does not end":  "\x80",
		"no end in ten bytes":       strings.Repeat("\x80", 10),
		"a from of eleven bytes":    strings.Repeat("\x80", 10) + "\x01" + right,
		"a from of two bytes":       "\x80\x00" + right,
		"Ops that do not end":       "\x00" + right[:len(right)-1],
		"Ops that only begin":       "\x00" + right[:1],
		"a number that ends not":    "\x00\x80",
		"fewer than there should":   "\x00" + bytesByHand(2, []impl.Op{theirs}),
		"more than there should":    "\x00" + bytesByHand(1, []impl.Op{theirs, x}),
		"below 0":                   "\x00" + bytesByHand(-1, nil),
		"a byte behind them":        "\x00" + right + "\x00",
		"an empty list, and a byte": "\x00\x00\x00",
		"the list twice":            "\x00" + right + right,
		"one twice":                 "\x00" + bytesByHand(2, []impl.Op{theirs, theirs}),
		"two of one stamp":          "\x00" + bytesByHand(2, []impl.Op{theirs, setOp(5, 2, 2, "k", "v")}),
		"the zero Op":               "\x00" + bytesByHand(1, make([]impl.Op, 1)),
		"one more than MaxOps":      "\x00" + bytesByHand(impl.MaxOps+1, lateOps(2, 1, impl.MaxOps+1)),
	} {
		wantStops(t, what, recordOf("T"+bytes))
	}
	for what, record := range map[string]string{
		"from below 0":             takeRecord(-1, theirs),
		"from below 0, none":       takeRecord(-1),
		"from above Got":           takeRecord(1, theirs),
		"from above Got, none":     takeRecord(1),
		"the least from":           takeRecord(math.MinInt64, theirs),
		"the greatest from":        takeRecord(math.MaxInt64, theirs),
		"its own that is not done": takeRecord(0, k),
		"its own, but another":     takeRecord(0, moveOp(1, 1, 2, 0, "other")),
		"too many for its log":     takeRecord(0, lateOps(2, 1, impl.MaxOps)...),
	} {
		wantStops(t, what, record)
	}
}

func TestTakesThatAreGoneThrough(t *testing.T) {
	x, _, theirs, _ := someDeeds()
	c := someClients()[1]
	for what, l := range map[string][]impl.Op{
		"none": nil, "its own": {x}, "another's": {theirs}, "both": {x, theirs}, "both, the later one first": {theirs, x},
		"of an earlier stamp": {moveOp(1, 1, 2, 0, "x"), setOp(1, 2, 2, "k", "")}, "MaxOps with its own": lateOps(2, 1, impl.MaxOps-1),
	} {
		log := opRecord(x) + takeRecord(0, l...)
		told := takeByHand(c, 0, l)
		if told.Code != impl.OK {
			t.Fatalf("%s: by hand the code %d", what, told.Code)
		}
		wantState(t, "Take of "+what, 1, log, impl.StateOut{Client: told.Client, At: int64(len(log))})
		for from := range int64(len(l)) {
			more := log + takeRecord(from, l[from:]...)
			wantState(t, "Take once more of "+what, 1, more, impl.StateOut{Client: told.Client, At: int64(len(more))})
		}
		beyond := log + takeRecord(int64(len(l)+1))
		wantState(t, "Take from behind "+what, 1, beyond, impl.StateOut{Client: told.Client, At: int64(len(log))})
	}
	clash := opRecord(x) + takeRecord(0, theirs)
	told := takeByHand(c, 0, []impl.Op{theirs}).Client
	wantState(t, "another deed of a stamp", 1, clash+takeRecord(1, setOp(5, 2, 2, "k", "")), impl.StateOut{Client: told, At: int64(len(clash))})
}

func TestBytesOfANotedAck(t *testing.T) {
	for what, bytes := range map[string]string{
		"no number":                 "",
		"a number that ends not":    "\x80",
		"no end in nine bytes":      strings.Repeat("\x80", 9),
		"no end in ten bytes":       strings.Repeat("\x80", 10),
		"a tenth byte of 2":         strings.Repeat("\x80", 9) + "\x02",
		"a number of two bytes":     "\x82\x00",
		"a byte behind it":          "\x02\x00",
		"a byte behind 0":           "\x00\x00",
		"a number behind it":        "\x02\x02",
		"Ops behind it":             "\x02" + bytesByHand(0, nil),
		"below 0":                   numBytesByHand(-1),
		"one more than are in Out":  numBytesByHand(2),
		"the least":                 numBytesByHand(math.MinInt64),
		"the greatest":              numBytesByHand(math.MaxInt64),
		"the greatest, and a byte":  numBytesByHand(math.MaxInt64) + "\x00",
		"as many as MaxTime":        numBytesByHand(impl.MaxTime),
		"two to the 32nd, and one":  numBytesByHand(1<<32 + 1),
		"a number ahead of another": "\x00\x02",
	} {
		wantStops(t, what, recordOf("A"+bytes))
	}
	x, k, _, _ := someDeeds()
	ahead := opRecord(x) + opRecord(k) + ackRecord(1)
	acked := changed(someClients()[2], func(c *impl.Client) { c.Acked, c.Out = 1, c.Out[1:] })
	for many, fits := range []bool{false, true, true, false} {
		log := ahead + ackRecord(int64(many))
		want := impl.StateOut{Client: acked, At: int64(len(ahead))}
		if fits {
			want = impl.StateOut{Client: ackByHand(acked, int64(many)).Client, At: int64(len(log))}
		}
		wantState(t, fmt.Sprint("Ack of ", many, " behind 1"), 1, log, want)
	}
}

// spoiltText: a text with a byte changed, put in or left out.
func spoiltText(r *rand.Rand, text string) string {
	at, b := r.Intn(len(text)), string([]byte{byte(oneOf(r, 0, 1, 2, 128, r.Intn(256)))})
	switch r.Intn(3) {
	case 0:
		return text[:at] + b + text[at+1:]
	case 1:
		return text[:at] + b + text[at:]
	}
	return text[:at] + text[at+1:]
}

// Records with a right seal, spoilt within: now and then they are right ones still.
func TestClientOfSpoiltRecords(t *testing.T) {
	r := rand.New(rand.NewSource(8))
	further := 0
	for range 20000 {
		log := ""
		for _, record := range someRecords() {
			sealed, _, _ := textByHand(record)
			text := sealed[:len(sealed)-4]
			if r.Intn(3) == 0 {
				text = spoiltText(r, text)
			}
			log += recordOf(text)
		}
		want := stateByHand(1, log)
		wantState(t, fmt.Sprintf("%q", log), 1, log, want)
		if want.At > 0 && !strings.HasPrefix(someLog(), log[:want.At]) {
			further++
		}
		if t.Failed() {
			return
		}
	}
	if further < 300 {
		t.Errorf("only %d times it was gone through what was spoilt", further)
	}
}

func TestClientOfIsNewMemory(t *testing.T) {
	log := someLog()
	got := impl.ClientOf(1, log)
	logTexts, outTexts := deedTexts(got.Client.Log...), deedTexts(got.Client.Out...)
	wantApart(t, "ClientOf, the Log", []string{log}, logTexts)
	wantApart(t, "ClientOf, Out", []string{log}, outTexts)
	short := strings.Join(someRecords()[:5], "")
	got = impl.ClientOf(1, short)
	wantApart(t, "ClientOf, Log and Out", deedTexts(got.Client.Log...), deedTexts(got.Client.Out...))
	wantApart(t, "ClientOf, Out of some", []string{short}, deedTexts(got.Client.Out...))
}
