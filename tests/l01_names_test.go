package tests

import (
	"strings"
	"testing"

	"loop.example/g00378/impl"
)

func wantName(t *testing.T, name string, want bool) {
	t.Helper()
	if got := impl.NameRight(name); got != want {
		t.Errorf("NameRight of %d bytes %.24q: got %v, want %v", len(name), name, got, want)
	}
}

func TestNameLengths(t *testing.T) {
	wantName(t, "", false)
	for size := 1; size <= 20; size++ {
		wantName(t, strings.Repeat("n", size), true)
	}
	wantName(t, strings.Repeat("n", 21), false)
	wantName(t, strings.Repeat("n", impl.MaxBytes), false)
	wantName(t, strings.Repeat("n", impl.MaxBytes+1), false)
}

func TestNameBytes(t *testing.T) {
	const letters = "abcdefghijklmnopqrstuvwxyz"
	for b := range 256 {
		one := string([]byte{byte(b)})
		first := strings.Contains(letters, one)
		behind := strings.Contains(letters+"0123456789_", one)
		wantName(t, one, first)
		wantName(t, one+"a", first)
		wantName(t, "a"+one, behind)
		wantName(t, "a"+one+"9", behind)
		wantName(t, strings.Repeat("z", 19)+one, behind)
	}
}

func TestNameWords(t *testing.T) {
	for _, name := range []string{"a", "z", "a_9", "a__", "node_12", "x0123456789_abcdefgh"} {
		wantName(t, name, true)
	}
	for _, name := range []string{"_a", "9a", "A", "aB", "a b", "a-b", "a/b", " a", "a\n", "ä", "aé"} {
		wantName(t, name, false)
	}
}
