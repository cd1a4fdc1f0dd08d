package tests

import (
	"math"
	"strings"
	"testing"
	"unsafe"

	"loop.example/g00378/impl"
)

// Two bytes of length stand ahead of a text of 64 bytes and more.
const mostThatFits = impl.MaxBytes - 2

func wantText(t *testing.T, text string, at int64, want impl.TextOut) {
	t.Helper()
	if got := impl.GetText(text, at); got != want {
		t.Errorf("GetText of %d bytes %.24q at %d: got %.80q at %d with code %d, want %.80q at %d with code %d",
			len(text), text, at, got.Text, got.At, got.Code, want.Text, want.At, want.Code)
	}
}

func TestTextBytes(t *testing.T) {
	great := strings.Repeat("g", impl.MaxBytes)
	for _, c := range []struct {
		text string
		want string
	}{
		{"", "\x00"},
		{"ab", "\x04ab"},
		{"\x00\xff\x80", "\x06\x00\xff\x80"},
		{great[:63], "\x7e" + great[:63]},
		{great[:64], "\x80\x01" + great[:64]},
		{great, "\x80\x7d" + great},
		{great + "g", ""},
		{great + great, ""},
	} {
		if got := impl.PutText(c.text); got != c.want {
			t.Errorf("PutText of %d bytes: got %d bytes %.24q, want %d bytes %.24q", len(c.text), len(got), got, len(c.want), c.want)
		}
	}
}

func TestTextsComeBack(t *testing.T) {
	for _, size := range []int{0, 1, 2, 63, 64, 65, 8000 - 9, mostThatFits - 1, mostThatFits} {
		text := strings.Repeat("\x00a\xff\x80", size/4+1)[:size]
		b := impl.PutText(text)
		wantText(t, b, 0, impl.TextOut{Text: text, At: int64(len(b))})
	}
	for _, text := range []string{"", "a", "\x80\x80", "\n", strings.Repeat("x", 200)} {
		b := impl.PutText(text)
		wantText(t, "\xff\x80"+b+"more", 2, impl.TextOut{Text: text, At: 2 + int64(len(b))})
		for end := range len(b) {
			wantText(t, b[:end], 0, impl.TextOut{Code: impl.ErrShort})
		}
	}
}

func TestTextsInARow(t *testing.T) {
	first := impl.GetText("\x02a\x00\x04bc", 0)
	second := impl.GetText("\x02a\x00\x04bc", first.At)
	third := impl.GetText("\x02a\x00\x04bc", second.At)
	if first.Text != "a" || second.Text != "" || third.Text != "bc" || third.At != 6 {
		t.Errorf("got %+v, %+v, %+v", first, second, third)
	}
	wantText(t, "\x02a\x00\x04bc", third.At, impl.TextOut{Code: impl.ErrShort})
}

func TestWrongTexts(t *testing.T) {
	nine := strings.Repeat("\xff", 9)
	great := strings.Repeat("g", impl.MaxBytes)
	for _, c := range []struct {
		text string
		at   int64
		code int64
	}{
		{"\x02a", -1, impl.ErrForm},
		{"", math.MinInt64, impl.ErrForm},
		{"\x01", -1, impl.ErrForm},
		{"", 0, impl.ErrShort},
		{"\x02a", 2, impl.ErrShort},
		{"\x02a", 3, impl.ErrShort},
		{"\x02a", math.MaxInt64, impl.ErrShort},
		{"\x80", 0, impl.ErrShort},
		{nine, 0, impl.ErrShort},
		{"\x02", 0, impl.ErrShort},
		{"\x06ab", 0, impl.ErrShort},
		{"xx\x06ab", 2, impl.ErrShort},
		{"\x84\x00ab", 0, impl.ErrSyntax},
		{nine + "\x02", 0, impl.ErrSyntax},
		{nine + "\x80", 0, impl.ErrSyntax},
		{"\x01", 0, impl.ErrSyntax},
		{"\x01abc", 0, impl.ErrSyntax},
		{impl.PutNum(-64) + great[:100], 0, impl.ErrSyntax},
		{impl.PutNum(math.MinInt64), 0, impl.ErrSyntax},
		{impl.PutNum(math.MaxInt64), 0, impl.ErrSyntax},
		{impl.PutNum(impl.MaxBytes + 1), 0, impl.ErrSyntax},
		{impl.PutNum(impl.MaxBytes+1) + great[:mostThatFits], 0, impl.ErrSyntax},
		{impl.PutNum(impl.MaxBytes), 0, impl.ErrShort},
		{impl.PutNum(impl.MaxBytes) + great[:mostThatFits], 0, impl.ErrShort},
		{impl.PutNum(mostThatFits+1) + great[:mostThatFits], 0, impl.ErrShort},
		{impl.PutText(great[:mostThatFits+1]), 0, impl.ErrSize},
		{impl.PutText(great), 0, impl.ErrSize},
		{"\x02a" + great, 0, impl.ErrSize},
		{"\x02a" + great, -1, impl.ErrSize},
		{"\x01" + great, 0, impl.ErrSize},
		{great + "g", math.MaxInt64, impl.ErrSize},
	} {
		wantText(t, c.text, c.at, impl.TextOut{Code: c.code})
	}
}

// sharesMemory: does a piece lie within the bytes of a whole?
func sharesMemory(whole, piece string) bool {
	from := uintptr(unsafe.Pointer(unsafe.StringData(whole)))
	at := uintptr(unsafe.Pointer(unsafe.StringData(piece)))
	return len(piece) > 0 && from <= at && at < from+uintptr(len(whole))
}

func TestAnswersAreNewMemory(t *testing.T) {
	text := impl.PutText(strings.Repeat("m", 500))
	if sharesMemory(text, impl.GetText(text, 0).Text) {
		t.Error("GetText hands out a piece of its argument")
	}
	sealed := impl.Seal(strings.Repeat("m", 500))
	if sharesMemory(sealed, impl.Unseal(sealed).Text) {
		t.Error("Unseal hands out a piece of its argument")
	}
}
