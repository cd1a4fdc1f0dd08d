package tests

import (
	"encoding/binary"
	"math"
	"strings"
	"testing"

	"loop.example/g00378/impl"
)

// manyNumbers: the edges, and both sides of each power of two, where the
// count of bytes changes.
func manyNumbers() []int64 {
	l := []int64{0, -1, 63, 64, -64, -65, math.MinInt64, math.MaxInt64}
	for bit := range 63 {
		p := int64(1) << bit
		l = append(l, p-1, p, p+1, -p-1, -p, -p+1)
	}
	return l
}

func wantNum(t *testing.T, text string, at int64, want impl.NumOut) {
	t.Helper()
	if got := impl.GetNum(text, at); got != want {
		t.Errorf("GetNum of %d bytes %.24q at %d: got %+v, want %+v", len(text), text, at, got, want)
	}
}

func TestNumberBytes(t *testing.T) {
	for _, c := range []struct {
		n    int64
		want string
	}{
		{0, "\x00"},
		{-1, "\x01"},
		{1, "\x02"},
		{63, "\x7e"},
		{-64, "\x7f"},
		{64, "\x80\x01"},
		{-65, "\x81\x01"},
		{8191, "\xfe\x7f"},
		{8192, "\x80\x80\x01"},
		{math.MaxInt64, "\xfe\xff\xff\xff\xff\xff\xff\xff\xff\x01"},
		{math.MinInt64, "\xff\xff\xff\xff\xff\xff\xff\xff\xff\x01"},
	} {
		if got := impl.PutNum(c.n); got != c.want {
			t.Errorf("PutNum(%d): got %q, want %q", c.n, got, c.want)
		}
	}
}

func TestNumbersComeBack(t *testing.T) {
	for _, n := range manyNumbers() {
		b := impl.PutNum(n)
		if want := string(binary.AppendVarint(nil, n)); b != want {
			t.Errorf("PutNum(%d): got %q, want %q", n, b, want)
		}
		size := int64(len(b))
		wantNum(t, b, 0, impl.NumOut{N: n, At: size})
		wantNum(t, "\xffx\x80"+b+"\x80\x00", 3, impl.NumOut{N: n, At: 3 + size})
		for end := range len(b) {
			wantNum(t, b[:end], 0, impl.NumOut{Code: impl.ErrShort})
		}
	}
}

func TestWrongNumbers(t *testing.T) {
	nine := strings.Repeat("\xff", 9)
	nought := strings.Repeat("\x80", 9)
	for _, c := range []struct {
		text string
		at   int64
		code int64
	}{
		{"\x00", -1, impl.ErrForm},
		{"\x00", math.MinInt64, impl.ErrForm},
		{"", -1, impl.ErrForm},
		{"\x80\x00", -1, impl.ErrForm},
		{"", 0, impl.ErrShort},
		{"\x00", 1, impl.ErrShort},
		{"\x00", 2, impl.ErrShort},
		{"\x00", math.MaxInt64, impl.ErrShort},
		{"\x80", 0, impl.ErrShort},
		{"\x80\x80", 0, impl.ErrShort},
		{"\x00\x80\x80", 1, impl.ErrShort},
		{nine, 0, impl.ErrShort},
		{nought, 0, impl.ErrShort},
		{"\x80\x00", 0, impl.ErrSyntax},
		{"\xff\x80\x00", 0, impl.ErrSyntax},
		{"\x05\x81\x00\x05", 1, impl.ErrSyntax},
		{nought + "\x00", 0, impl.ErrSyntax},
		{nine + "\x00", 0, impl.ErrSyntax},
		{nine + "\x02", 0, impl.ErrSyntax},
		{nine + "\x7f", 0, impl.ErrSyntax},
		{nine + "\x80", 0, impl.ErrSyntax},
		{nine + "\x81\x00", 0, impl.ErrSyntax},
		{nought + "\x80", 0, impl.ErrSyntax},
		{strings.Repeat("\xff", 30), 0, impl.ErrSyntax},
		{strings.Repeat("\xff", 30), 20, impl.ErrSyntax},
		{strings.Repeat("\xff", 30), 21, impl.ErrShort},
	} {
		wantNum(t, c.text, c.at, impl.NumOut{Code: c.code})
	}
}

func TestTenthByte(t *testing.T) {
	for b := range 256 {
		text := strings.Repeat("\x80", 9) + string([]byte{byte(b)})
		want := impl.NumOut{Code: impl.ErrSyntax}
		if b == 1 {
			want = impl.NumOut{N: 1 << 62, At: 10}
		}
		wantNum(t, text, 0, want)
	}
}

// Of each text of two bytes it is told by hand what stands there.
func TestAllPairsOfBytes(t *testing.T) {
	for first := range 256 {
		for second := range 256 {
			u, at, code := first, 1, impl.OK
			if first >= 128 {
				u, at = first-128+second*128, 2
				if second >= 128 {
					code = impl.ErrShort
				} else if second == 0 {
					code = impl.ErrSyntax
				}
			}
			want := impl.NumOut{Code: int64(code)}
			if code == impl.OK {
				want = impl.NumOut{N: int64(u / 2), At: int64(at)}
				if u%2 == 1 {
					want.N = -want.N - 1
				}
			}
			wantNum(t, string([]byte{byte(first), byte(second)}), 0, want)
		}
	}
}

func TestNumberInGreatText(t *testing.T) {
	most := strings.Repeat("\x06", impl.MaxBytes)
	wantNum(t, most, 0, impl.NumOut{N: 3, At: 1})
	wantNum(t, most, impl.MaxBytes-1, impl.NumOut{N: 3, At: impl.MaxBytes})
	wantNum(t, most, impl.MaxBytes, impl.NumOut{Code: impl.ErrShort})
	for _, at := range []int64{0, 5, -1, math.MinInt64, impl.MaxBytes + 1, math.MaxInt64} {
		wantNum(t, most+"\x06", at, impl.NumOut{Code: impl.ErrSize})
	}
}
