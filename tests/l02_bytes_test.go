package tests

import (
	"encoding/binary"
	"math"
	"slices"
	"strings"
	"testing"

	"loop.example/g00378/impl"
)

// bytesByHand writes also deeds that are not right, and with any count.
func bytesByHand(many int64, l []impl.Op) string {
	b := binary.AppendVarint(nil, many)
	for _, o := range l {
		for _, n := range []int64{o.Time, o.Replica, o.Kind, o.Node, o.Parent} {
			b = binary.AppendVarint(b, n)
		}
		for _, text := range []string{o.Name, o.Value} {
			b = append(binary.AppendVarint(b, int64(len(text))), text...)
		}
	}
	return string(b)
}

func wantRead(t *testing.T, what string, text string, want impl.OpsOut) {
	t.Helper()
	got := impl.OpsRead(text)
	if !slices.Equal(got.Ops, want.Ops) || got.Many != want.Many || got.Code != want.Code {
		t.Errorf("OpsRead of %s, %d bytes %.40q: got %d ops, Many %d, code %d, want %d ops, Many %d, code %d",
			what, len(text), text, len(got.Ops), got.Many, got.Code, len(want.Ops), want.Many, want.Code)
	}
}

func wantNoBytes(t *testing.T, what string, l []impl.Op) {
	t.Helper()
	if got := impl.OpsBytes(l); got != "" {
		t.Errorf("OpsBytes of %s: got %d bytes, want none", what, len(got))
	}
}

func wantBack(t *testing.T, what string, l []impl.Op) {
	t.Helper()
	text := impl.OpsBytes(l)
	if want := bytesByHand(int64(len(l)), l); text != want {
		t.Errorf("OpsBytes of %s: got %d bytes %.40q, want %d bytes %.40q", what, len(text), text, len(want), want)
	}
	wantRead(t, what, text, impl.OpsOut{Ops: l})
}

// greatOps: as many bytes a deed as may be.
func greatOps(many int) []impl.Op {
	l := []impl.Op{}
	for i := range many {
		l = append(l, setOp(impl.MaxTime-int64(i), 50, impl.MaxTime, strings.Repeat("k", 20), strings.Repeat("v", 40)))
	}
	return l
}

func TestDeedsComeBack(t *testing.T) {
	wantBack(t, "none", nil)
	wantBack(t, "a move", []impl.Op{moveOp(1, 1, 2, 0, "x")})
	wantBack(t, "a move of the greatest numbers", []impl.Op{moveOp(impl.MaxTime, 50, impl.MaxTime, impl.MaxTime, strings.Repeat("x", 20))})
	wantBack(t, "a set without a value", []impl.Op{setOp(1, 1, 2, "k", "")})
	wantBack(t, "a set of 40 bytes", []impl.Op{setOp(1, 1, 2, "k", strings.Repeat("\x80", 40))})
	wantBack(t, "both kinds", []impl.Op{setOp(9, 2, 2, "k", "v"), moveOp(1, 1, 2, 0, "x")})
	wantBack(t, "MaxOps", manyOps(impl.MaxOps))
	for _, many := range []int{2, 3, 64, impl.MaxOps - 1} {
		l := manyOps(many)
		slices.Reverse(l)
		wantBack(t, "falling stamps", l)
	}
	if got := impl.OpsBytes(nil); got != "\x00" {
		t.Errorf("OpsBytes of none: got %q", got)
	}
}

func TestNoBytesOfWrongDeeds(t *testing.T) {
	a := moveOp(1, 1, 2, 0, "x")
	wantNoBytes(t, "the zero deed", []impl.Op{{}})
	wantNoBytes(t, "a name that is none", []impl.Op{a, moveOp(2, 1, 2, 0, "X")})
	wantNoBytes(t, "one alike twice", []impl.Op{a, a})
	wantNoBytes(t, "two of one stamp", []impl.Op{a, setOp(1, 1, 2, "k", "v")})
	wantNoBytes(t, "one more than MaxOps", manyOps(impl.MaxOps+1))
	wantNoBytes(t, "one more than MaxList", manyOps(impl.MaxList+1))
}

// Two bytes of count, 112 deeds of 71 bytes, and one of 8 without its value.
func TestMostBytesOfDeeds(t *testing.T) {
	wantNoBytes(t, "MaxOps of the greatest", greatOps(impl.MaxOps))
	most := append(greatOps(112), setOp(1, 1, 2, "k", strings.Repeat("v", 38)))
	if size := len(bytesByHand(113, most)); size != impl.MaxBytes {
		t.Fatalf("the deeds of this test have %d bytes", size)
	}
	wantBack(t, "just MaxBytes bytes", most)
	beyond := append(greatOps(112), setOp(1, 1, 2, "k", strings.Repeat("v", 39)))
	wantOps(t, "one byte more than MaxBytes", beyond, true)
	wantNoBytes(t, "one byte more than MaxBytes", beyond)
	wantRead(t, "one byte more than MaxBytes", bytesByHand(113, beyond), impl.OpsOut{Code: impl.ErrSize})
}

func TestNoOtherBytesAreRead(t *testing.T) {
	a, b := moveOp(1, 1, 2, 0, "x"), setOp(2, 1, 2, "k", "v")
	both := []impl.Op{a, b}
	right := impl.OpsBytes(both)
	wrong := map[string]string{
		"nothing":                      "",
		"a letter":                     "x",
		"a byte behind the last":       right + "\x00",
		"a deed behind the last":       bytesByHand(1, both),
		"a deed too few":               bytesByHand(3, both),
		"a count below 0":              bytesByHand(-1, nil),
		"a count below 0, and deeds":   bytesByHand(-2, both),
		"the least count":              bytesByHand(math.MinInt64, both),
		"the greatest count":           bytesByHand(math.MaxInt64, both),
		"none, and a deed":             bytesByHand(0, []impl.Op{a}),
		"a long count":                 "\x84\x00" + right[1:],
		"a long count of none":         "\x80\x00",
		"a long time":                  right[:1] + "\x82\x00" + right[2:],
		"a long length of a name":      strings.Replace(right, "\x02x", "\x82\x00x", 1),
		"a length below 0":             strings.Replace(right, "\x02x", "\x01x", 1),
		"a value that is not there":    strings.Replace(right, "\x02v", "\x04v", 1),
		"a name that is none":          strings.Replace(right, "\x02x", "\x02X", 1),
		"an empty name":                strings.Replace(right, "\x02x", "\x00", 1),
		"the zero deed":                bytesByHand(1, []impl.Op{{}}),
		"one alike twice":              bytesByHand(2, []impl.Op{a, a}),
		"two of one stamp":             bytesByHand(2, []impl.Op{a, setOp(1, 1, 2, "k", "v")}),
		"two of one stamp, far":        bytesByHand(3, []impl.Op{a, b, setOp(1, 1, 2, "k", "v")}),
		"a set with a parent":          bytesByHand(1, []impl.Op{{Time: 1, Replica: 1, Kind: impl.OpSet, Node: 2, Parent: 1, Name: "k"}}),
		"a move with a value":          bytesByHand(1, []impl.Op{{Time: 1, Replica: 1, Kind: impl.OpMove, Node: 2, Name: "k", Value: "v"}}),
		"a value of 41 bytes":          bytesByHand(1, []impl.Op{setOp(1, 1, 2, "k", strings.Repeat("v", 41))}),
		"one more than MaxOps":         bytesByHand(impl.MaxOps+1, manyOps(impl.MaxOps+1)),
		"one more than MaxOps, uncut":  bytesByHand(impl.MaxOps, manyOps(impl.MaxOps+1)),
		"many of the fewest bytes":     strings.Repeat("\x00", impl.MaxBytes),
		"the greatest count, and most": bytesByHand(math.MaxInt64, nil) + strings.Repeat("\x00", 7000),
	}
	for what, text := range wrong {
		if len(text) > impl.MaxBytes {
			t.Fatalf("%s has %d bytes", what, len(text))
		}
		wantRead(t, what, text, impl.OpsOut{Code: impl.ErrSyntax})
	}
	for end := range len(right) {
		wantRead(t, "what is cut", right[:end], impl.OpsOut{Code: impl.ErrSyntax})
	}
}

// With one byte turned it is no deed, or another one with just those bytes.
func TestTurnedBytesOfDeeds(t *testing.T) {
	right := impl.OpsBytes([]impl.Op{moveOp(70, 1, 2, 0, "x"), setOp(2, 1, 300, "k", "v")})
	for at := range len(right) {
		for by := 1; by < 256; by++ {
			turned := []byte(right)
			turned[at] ^= byte(by)
			got := impl.OpsRead(string(turned))
			if got.Code == impl.OK && (!impl.OpsRight(got.Ops) || bytesByHand(int64(len(got.Ops)), got.Ops) != string(turned)) {
				t.Errorf("OpsRead of %q: got %+v", turned, got)
			}
			if got.Code != impl.OK {
				wantRead(t, "a turned byte", string(turned), impl.OpsOut{Code: impl.ErrSyntax})
			}
		}
	}
}

func TestGreatTextsAreNotRead(t *testing.T) {
	wantRead(t, "no deeds", strings.Repeat("x", impl.MaxBytes), impl.OpsOut{Code: impl.ErrSyntax})
	wantRead(t, "no deeds", strings.Repeat("x", impl.MaxBytes+1), impl.OpsOut{Code: impl.ErrSize})
	wantRead(t, "right deeds", bytesByHand(impl.MaxOps, greatOps(impl.MaxOps)), impl.OpsOut{Code: impl.ErrSize})
}

func TestReadDeedsAreNewMemory(t *testing.T) {
	text := impl.OpsBytes([]impl.Op{setOp(1, 1, 2, strings.Repeat("k", 20), strings.Repeat("v", 40))})
	got := impl.OpsRead(text).Ops[0]
	if sharesMemory(text, got.Name) || sharesMemory(text, got.Value) {
		t.Error("OpsRead hands out a piece of its argument")
	}
}
