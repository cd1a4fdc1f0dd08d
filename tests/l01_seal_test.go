package tests

import (
	"hash/crc32"
	"math"
	"strings"
	"testing"

	"loop.example/g00378/impl"
)

// unevenText: a text whose bytes do not repeat in step with any count of bits.
func unevenText(size int) string {
	b := make([]byte, size)
	for i := range b {
		b[i] = byte(i*i*7 + i>>3)
	}
	return string(b)
}

func wantUnsealed(t *testing.T, text string, want impl.TextOut) {
	t.Helper()
	if got := impl.Unseal(text); got != want {
		t.Errorf("Unseal of %d bytes %.24q: got %.80q at %d with code %d, want %.80q at %d with code %d",
			len(text), text, got.Text, got.At, got.Code, want.Text, want.At, want.Code)
	}
}

func TestCrc(t *testing.T) {
	for _, c := range []struct {
		text string
		want int64
	}{
		{"", 0},
		{"123456789", 0xCBF43926},
		{"\x00\x00\x00\x00", 0x2144DF1C},
		{"\xff\xff\xff\xff", 0xFFFFFFFF},
		{strings.Repeat("a", impl.MaxBytes+1), 0},
	} {
		if got := impl.Crc(c.text); got != c.want {
			t.Errorf("Crc of %d bytes %.24q: got %d, want %d", len(c.text), c.text, got, c.want)
		}
	}
	for _, size := range []int{1, 2, 3, 4, 5, 255, 256, 1000, impl.MaxBytes - 1, impl.MaxBytes} {
		text := unevenText(size)
		if got, want := impl.Crc(text), int64(crc32.ChecksumIEEE([]byte(text))); got != want {
			t.Errorf("Crc of %d bytes: got %d, want %d", size, got, want)
		}
	}
	for b := range 256 {
		text := string([]byte{byte(b)})
		if got, want := impl.Crc(text), int64(crc32.ChecksumIEEE([]byte(text))); got != want {
			t.Errorf("Crc of the byte %d: got %d, want %d", b, got, want)
		}
	}
}

func TestCrcGoesOn(t *testing.T) {
	text := unevenText(300)
	for cut := range len(text) + 1 {
		got := impl.CrcMore(impl.Crc(text[:cut]), text[cut:])
		if want := impl.Crc(text); got != want {
			t.Errorf("cut at %d: got %d, want %d", cut, got, want)
		}
	}
	most := unevenText(impl.MaxBytes)
	got := impl.CrcMore(impl.Crc(most), most)
	if want := int64(crc32.ChecksumIEEE([]byte(most + most))); got != want {
		t.Errorf("two texts of MaxBytes bytes: got %d, want %d", got, want)
	}
}

func TestCrcMoreEdges(t *testing.T) {
	great := strings.Repeat("a", impl.MaxBytes+1)
	for _, c := range []struct {
		crc  int64
		text string
		want int64
	}{
		{0, "", 0},
		{0, "123456789", 0xCBF43926},
		{0xCBF43926, "", 0xCBF43926},
		{1<<32 - 1, "", 1<<32 - 1},
		{1<<32 - 1, "ab", int64(crc32.Update(1<<32-1, crc32.IEEETable, []byte("ab")))},
		{1 << 32, "ab", 0},
		{1 << 32, "", 0},
		{-1, "ab", 0},
		{-1, "", 0},
		{math.MaxInt64, "ab", 0},
		{math.MinInt64, "ab", 0},
		{0, great, 0},
		{5, great, 0},
		{-1, great, 0},
	} {
		if got := impl.CrcMore(c.crc, c.text); got != c.want {
			t.Errorf("CrcMore(%d, %d bytes %.24q): got %d, want %d", c.crc, len(c.text), c.text, got, c.want)
		}
	}
}

func TestSealBytes(t *testing.T) {
	for _, c := range []struct {
		text string
		want string
	}{
		{"", "\x00\x00\x00\x00"},
		{"123456789", "123456789\x26\x39\xf4\xcb"},
		{strings.Repeat("a", impl.MaxBytes-3), ""},
		{strings.Repeat("a", impl.MaxBytes), ""},
		{strings.Repeat("a", impl.MaxBytes+1), ""},
	} {
		if got := impl.Seal(c.text); got != c.want {
			t.Errorf("Seal of %d bytes %.24q: got %d bytes %.24q, want %q", len(c.text), c.text, len(got), got, c.want)
		}
	}
}

func TestSealedComesBack(t *testing.T) {
	for _, size := range []int{0, 1, 2, 3, 4, 5, 100, impl.MaxBytes - 5, impl.MaxBytes - 4} {
		text := unevenText(size)
		sealed := impl.Seal(text)
		if len(sealed) != size+4 {
			t.Errorf("Seal of %d bytes has %d", size, len(sealed))
		}
		wantUnsealed(t, sealed, impl.TextOut{Text: text})
	}
}

func TestTurnedByteIsRefused(t *testing.T) {
	for _, size := range []int{0, 1, 7, 40} {
		sealed := impl.Seal(unevenText(size))
		for at := range len(sealed) {
			for by := 1; by < 256; by++ {
				turned := []byte(sealed)
				turned[at] ^= byte(by)
				wantUnsealed(t, string(turned), impl.TextOut{Code: impl.ErrSum})
			}
		}
	}
	sealed := impl.Seal(unevenText(impl.MaxBytes - 4))
	for _, at := range []int{0, 4000, impl.MaxBytes - 5, impl.MaxBytes - 4, impl.MaxBytes - 1} {
		turned := []byte(sealed)
		turned[at] ^= 64
		wantUnsealed(t, string(turned), impl.TextOut{Code: impl.ErrSum})
	}
}

func TestWrongSeals(t *testing.T) {
	for _, c := range []struct {
		text string
		code int64
	}{
		{"", impl.ErrShort},
		{"\x00", impl.ErrShort},
		{"\x00\x00", impl.ErrShort},
		{"\x00\x00\x00", impl.ErrShort},
		{"\x00\x00\x00\x01", impl.ErrSum},
		{"123456789\xcb\xf4\x39\x26", impl.ErrSum},
		{impl.Seal("ab") + "\x00", impl.ErrSum},
		{impl.Seal("ab")[:5], impl.ErrSum},
		{strings.Repeat("a", impl.MaxBytes), impl.ErrSum},
		{strings.Repeat("a", impl.MaxBytes+1), impl.ErrSize},
		{sealedByHand(unevenText(impl.MaxBytes - 3)), impl.ErrSize},
		{sealedByHand(unevenText(impl.MaxBytes)), impl.ErrSize},
	} {
		wantUnsealed(t, c.text, impl.TextOut{Code: c.code})
	}
}

// sealedByHand seals also what is too great for Seal.
func sealedByHand(text string) string {
	crc := crc32.ChecksumIEEE([]byte(text))
	return text + string([]byte{byte(crc), byte(crc >> 8), byte(crc >> 16), byte(crc >> 24)})
}
