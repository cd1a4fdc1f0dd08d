package tests

import (
	"fmt"
	"slices"
	"strings"
	"testing"

	"loop.example/g00378/impl"
)

// talkOf: one line so many times, each with the same answer.
func talkOf(many int, line, told string) []string {
	return slices.Repeat([]string{line, told}, many)
}

func TestMoveLines(t *testing.T) {
	wantTalk(t, "moves that are done",
		"move WHO 2 0 x", "ok",
		"move WHO 3 2 y", "ok",
		"move WHO 4 1 z", "ok",
		"move WHO 1000000 3 "+strings.Repeat("n", 20), "ok",
		"tree WHO", "tree /x /x/y /x/y/"+strings.Repeat("n", 20),
		"find WHO ~/z", "4",
		"move WHO 2 0 w", "ok",
		"move WHO 3 0 y_9", "ok",
		"move WHO 4 3 z", "ok",
		"move WHO 3 1 t", "ok",
		"tree WHO", "tree /w",
		"rows WHO 1 1", "000003=t",
		"rows WHO 1 3", "000004=z 1000000="+strings.Repeat("n", 20),
		"tree OTHER", "tree",
	)
}

// formNames: words that are no names.
func formNames() []string {
	return []string{
		"X", "9", "_", "-", "~", "/x", "x/y", "x.", "xY", "\x00", "x\x00", "\t", "x\r", "\xff", "x\xff", "é", "\u00a0", "x\u2028", "\U0001f333",
		strings.Repeat("x", 21), strings.Repeat("x", 1000),
	}
}

func TestMovesThatTellACode(t *testing.T) {
	talk := []string{
		"move WHO 2 2 x", "error 6", // below itself, but there is no such node
		"move WHO 2 3 x", "error 6",
		"move WHO 2 1000000 x", "error 6",
		"move WHO 2 0 x", "ok",
		"move WHO 3 2 y", "ok",
		"move WHO 2 2 x", "error 10",
		"move WHO 2 3 x", "error 10",
		"move WHO 3 4 y", "error 6",
		"move WHO 4 5 y", "error 6",
		"move OTHER 3 2 y", "error 6",
	}
	for _, words := range []string{"0 0", "1 0", "1 1", "0 2", "1000001 0", "999999999 0", "2 1000001", "2 999999999", "0 999999999"} {
		talk = append(talk, "move WHO "+words+" x", "error 1")
	}
	wantTalk(t, "moves that tell a code", append(talk, "tree WHO", "tree /x /x/y", "tree OTHER", "tree")...)
	for _, name := range formNames() {
		wantTalk(t, "no name", "move WHO 2 0 "+name, "error 1", "move WHO 2 9 "+name, "error 1", "move WHO 2 0 x", "ok", "move WHO 2 2 "+name, "error 1", "tree WHO", "tree /x")
	}
}

func TestSetLines(t *testing.T) {
	most := strings.Repeat("\xff", 40)
	wantTalk(t, "sets that are done",
		"move WHO 2 0 x", "ok",
		"move WHO 3 1 y", "ok",
		"set WHO 2 k v", "ok",
		"set WHO 2 k w", "ok",
		"set WHO 2 j é", "ok",
		"set WHO 3 k 0", "ok",
		"set WHO 3 "+strings.Repeat("k", 20)+" "+most, "ok",
		"prop WHO 2 k", "prop w",
		"prop WHO 2 j", "prop é",
		"prop WHO 3 k", "prop 0",
		"prop WHO 3 "+strings.Repeat("k", 20), "prop "+most,
		"rows WHO 4 2", "j=é k=w",
		"move WHO 2 0 z", "ok",
		"prop WHO 2 k", "prop w",
		"prop OTHER 2 k", "prop -",
	)
}

func TestSetsThatTellACode(t *testing.T) {
	talk := []string{
		"set WHO 2 k v", "error 6",
		"move WHO 2 0 x", "ok",
		"set WHO 3 k v", "error 6",
		"set WHO 1000000 k v", "error 6",
		"set OTHER 2 k v", "error 6",
		"set WHO 2 k " + strings.Repeat("v", 41), "error 1",
		"set WHO 2 k " + strings.Repeat("é", 21), "error 1",
		"set WHO 3 k " + strings.Repeat("v", 6000), "error 1",
	}
	for _, node := range []string{"0", "1", "1000001", "999999999"} {
		talk = append(talk, "set WHO "+node+" k v", "error 1")
	}
	wantTalk(t, "sets that tell a code", append(talk, "rows WHO 4 2", "-")...)
	for _, key := range formNames() {
		wantTalk(t, "no key", "set WHO 2 "+key+" v", "error 1", "move WHO 2 0 x", "ok", "set WHO 2 "+key+" v", "error 1", "prop WHO 2 "+key, "prop -", "rows WHO 4 2", "-")
	}
}

// A value is any word: each byte but the blank and the line feed may be in it.
func TestValuesOfAllBytes(t *testing.T) {
	for b := range 256 {
		if b == ' ' || b == '\n' {
			continue
		}
		for _, value := range []string{string([]byte{byte(b)}), "v" + string([]byte{byte(b)}), string([]byte{byte(b), 'v', byte(b)})} {
			wantTalk(t, fmt.Sprint("a value with the byte ", b),
				"move WHO 2 0 x", "ok", "set WHO 2 k "+value, "ok", "prop WHO 2 k", "prop "+value, "rows WHO 4 2", "k="+value,
				"sync WHO", "ok 0", "sync OTHER", "ok 2", "prop OTHER 2 k", "prop "+value)
		}
	}
	// Those of runes whose low byte is that of a line feed or a blank, and those
	// that are no rune.
	for _, value := range []string{
		"Ċ", "Ġ", "\u200a", "\u2020", "\u0a0a", "\u2028", "\u0085", "\u00a0", "\u3000", "\ufeff", "\ufffd", "\U0001f333", "\U0001f30a", "\U0010ffff",
		"\xc0\x8a", "\xc0\xa0", "\xe2\x80", "\xe2", "\xf0\x9f\x8c", "\xed\xa0\x80", "\xf4\x90\x80\x80", "\x80\x80", "\xffv\xff", "\x00", "\x00\x00",
	} {
		wantTalk(t, "a value of other bytes", "move WHO 2 0 x", "ok", "set WHO 2 k "+value, "ok", "prop WHO 2 k", "prop "+value, "rows WHO 4 2", "k="+value, "find WHO "+value, "-")
	}
}

// A word may be what the desk itself tells, or what begins a line.
func TestWordsThatTheDeskKnows(t *testing.T) {
	for _, word := range []string{"ok", "error", "tree", "prop", "move", "sync", "a", "b", "path", "under", "who"} {
		wantTalk(t, "a word of the desk", "move WHO 2 0 "+word, "ok", "set WHO 2 "+word+" "+word, "ok", "prop WHO 2 "+word, "prop "+word, "tree WHO", "tree /"+word, "find WHO /"+word, "2", "find WHO "+word, "-", "rows WHO 4 2", word+"="+word)
	}
	for _, word := range []string{"-", "=", "0", "007", "-1", "/x", "~", "N", "WHO", "a=b", "k=v"} {
		wantDesk(t, "a value that means nothing", feeds("move a 2 0 x", "set a 2 k "+word, "prop a 2 k", "rows a 4 2"), impl.DeskOut{Text: feeds("ok", "ok", "prop "+word, "k="+word)})
	}
}

func TestMaxOutOfADesk(t *testing.T) {
	wantTalk(t, "MaxOut moves", slices.Concat(
		talkOf(30, "move WHO 2 0 x", "ok"),
		[]string{
			"move WHO 2 0 x", "error 9",
			"set WHO 2 k v", "error 9",
			"move WHO 2 0 X", "error 1",
			"move WHO 2 2 x", "error 10",
			"set WHO 3 k v", "error 6",
			"move OTHER 2 0 x", "ok",
			"sync WHO", "ok 0",
			"set WHO 2 k v", "ok",
			"sync OTHER", "ok 30",
			"prop OTHER 2 k", "prop -",
		})...)
	wantTalk(t, "MaxOut sets", slices.Concat(
		[]string{"move WHO 2 0 x", "ok"}, talkOf(29, "set WHO 2 k v", "ok"), talkOf(9, "set WHO 2 k w", "error 9"), []string{"prop WHO 2 k", "prop v"})...)
	// 29 are in Out, and one comes from the other hand: that one is not in Out.
	wantTalk(t, "what was taken is not in Out", slices.Concat(
		[]string{"move OTHER 2 0 x", "ok", "sync OTHER", "ok 0", "sync WHO", "ok 1"}, talkOf(30, "set WHO 2 k v", "ok"), []string{"set WHO 2 k v", "error 9"})...)
}

// A 21st Key is told ok: the deed is done, though the tree has no room for it.
func TestTwentyKeysOfADesk(t *testing.T) {
	talk := []string{"move WHO 2 0 x", "ok"}
	for i := range 21 {
		talk = append(talk, fmt.Sprintf("set WHO 2 k%02d v%d", i, i), "ok")
	}
	wantTalk(t, "21 Keys", append(talk, "prop WHO 2 k19", "prop v19", "prop WHO 2 k20", "prop -", "set WHO 2 k07 w", "ok", "prop WHO 2 k07", "prop w")...)
}

// What tells a code takes no stamp: so the other one's second deed is behind
// the first one of this one, whatever this one tried.
func TestWhatIsRefusedTakesNoStamp(t *testing.T) {
	for _, refused := range []string{"move WHO 2 9 x", "move WHO 2 0 X", "set WHO 9 k v", "set WHO 2 K v", "find WHO /x", "prop WHO 2 k", "rows WHO 1 0", "tree WHO", "sync WHO"} {
		for _, who := range []string{"a", "b"} {
			other := string("ba"[who[0]-'a'])
			text := feeds(slices.Concat(slices.Repeat([]string{strings.ReplaceAll(refused, "WHO", who)}, 5),
				[]string{"move " + who + " 2 0 first", "move " + other + " 3 0 y", "move " + other + " 2 0 second", "sync a", "sync b", "sync a", "tree a", "tree b"})...)
			lines := strings.Split(impl.DeskRun(text).Text, "\n")
			if l := lines[len(lines)-3:]; l[0] != "tree /second /y" || l[1] != l[0] {
				t.Errorf("%q: got %q", text, l)
			}
			wantDesk(t, "a refused deed", text, deskByHand(text))
		}
	}
}

// Of like Times that of the replica 2 is behind that of 1, and of others the
// greater Time.
func TestWhoseDeedIsTheLast(t *testing.T) {
	for _, syncs := range [][]string{{"a", "b", "a", "b"}, {"b", "a", "b", "a"}, {"a", "b", "b", "a"}, {"b", "a", "a", "b"}} {
		for _, c := range []struct {
			a, b int
			last string
		}{{1, 1, "b"}, {1, 2, "b"}, {2, 1, "a"}, {2, 2, "b"}, {5, 4, "a"}, {4, 5, "b"}, {5, 5, "b"}} {
			lines := slices.Concat(slices.Repeat([]string{"move a 2 0 of_a"}, c.a), slices.Repeat([]string{"move b 2 0 of_b"}, c.b))
			for _, who := range syncs {
				lines = append(lines, "sync "+who)
			}
			text := feeds(append(lines, "tree a", "tree b")...)
			want := "tree /of_" + c.last + "\ntree /of_" + c.last + "\n"
			if got := impl.DeskRun(text).Text; !strings.HasSuffix(got, want) {
				t.Errorf("%d of a, %d of b, synced %v: got %q", c.a, c.b, syncs, got)
			}
			wantDesk(t, "both move one node", text, deskByHand(text))
		}
	}
}

func TestSyncLines(t *testing.T) {
	wantTalk(t, "nothing to sync", "sync WHO", "ok 0", "sync OTHER", "ok 0", "sync WHO", "ok 0", "sync WHO", "ok 0", "tree WHO", "tree")
	wantTalk(t, "one hand has deeds",
		"move WHO 2 0 x", "ok",
		"sync OTHER", "ok 0",
		"sync WHO", "ok 0",
		"sync WHO", "ok 0",
		"tree OTHER", "tree",
		"sync OTHER", "ok 1",
		"tree OTHER", "tree /x",
		"sync OTHER", "ok 0",
		"sync WHO", "ok 0",
	)
	wantTalk(t, "both hands have deeds",
		"move WHO 2 0 x", "ok",
		"move WHO 3 2 y", "ok",
		"move OTHER 4 0 z", "ok",
		"sync WHO", "ok 0",
		"set WHO 3 k v", "ok",
		"sync OTHER", "ok 2",
		"prop OTHER 3 k", "prop -",
		"tree OTHER", "tree /x /x/y /z",
		"tree WHO", "tree /x /x/y",
		"sync WHO", "ok 1",
		"tree WHO", "tree /x /x/y /z",
		"sync OTHER", "ok 1",
		"prop OTHER 3 k", "prop v",
		"set OTHER 3 k w", "ok",
		"move OTHER 4 3 z", "ok",
		"move OTHER 5 4 q", "ok",
		"sync OTHER", "ok 0",
		"sync WHO", "ok 3",
		"prop WHO 3 k", "prop w",
		"tree WHO", "tree /x /x/y /x/y/z /x/y/z/q",
		"sync OTHER", "ok 0",
		"sync WHO", "ok 0",
	)
}

// So many as may be taken in one sync: a text has no room for more.
func TestTheGreatestSync(t *testing.T) {
	for many := range 38 {
		talk := talkOf(min(many, 30), "move WHO 2 0 x", "ok")
		if many >= 30 {
			talk = append(append(talk, "sync WHO", "ok 0"), talkOf(many-30, "move WHO 2 0 y", "ok")...)
		}
		told := fmt.Sprint("ok ", many)
		wantTalk(t, fmt.Sprint(many, " at once"), append(talk, "sync WHO", "ok 0", "sync OTHER", told)...)
	}
	wantTalk(t, "37 at once, while the other one has 1", slices.Concat(
		talkOf(30, "move WHO 2 0 x", "ok"), []string{"sync WHO", "ok 0"}, talkOf(5, "move WHO 2 0 y", "ok"), []string{"move OTHER 3 0 z", "ok", "sync WHO", "ok 0", "sync OTHER", "ok 35", "sync WHO", "ok 1"})...)
}

func TestTreeLines(t *testing.T) {
	wantTalk(t, "an empty tree", "tree WHO", "tree", "tree OTHER", "tree")
	wantTalk(t, "nothing but the trash", "move WHO 2 1 x", "ok", "move WHO 3 2 y", "ok", "tree WHO", "tree", "find WHO ~/x/y", "3")
	wantTalk(t, "each behind its parent, in the order of Names",
		"move WHO 2 0 b", "ok",
		"move WHO 3 0 a", "ok",
		"move WHO 4 2 d", "ok",
		"move WHO 5 3 z", "ok",
		"move WHO 6 2 c", "ok",
		"move WHO 7 4 a", "ok",
		"move WHO 8 1 t", "ok",
		"move WHO 9 8 u", "ok",
		"move WHO 10 0 ab", "ok",
		"tree WHO", "tree /a /a/z /ab /b /b/c /b/d /b/d/a",
		"move WHO 2 9 b", "ok",
		"tree WHO", "tree /a /a/z /ab",
		"move WHO 8 5 t", "ok",
		"tree WHO", "tree /a /a/z /a/z/t /a/z/t/u /a/z/t/u/b /a/z/t/u/b/c /a/z/t/u/b/d /a/z/t/u/b/d/a /ab",
	)
	wantTalk(t, "of one Name by their Ids",
		"move WHO 9 0 x", "ok",
		"move WHO 10 0 x", "ok",
		"move WHO 2 0 x", "ok",
		"move WHO 3 10 c", "ok",
		"move WHO 4 9 b", "ok",
		"move WHO 5 2 a", "ok",
		"tree WHO", "tree /x /x/a /x /x/b /x /x/c",
	)
	wantTalk(t, "what others did is there when it was synced",
		"move WHO 2 0 x", "ok", "sync WHO", "ok 0", "tree OTHER", "tree", "sync OTHER", "ok 1", "tree OTHER", "tree /x",
		"move OTHER 2 1 x", "ok", "tree WHO", "tree /x", "sync OTHER", "ok 0", "tree WHO", "tree /x", "sync WHO", "ok 1", "tree WHO", "tree",
	)
	var chain []string
	long := strings.Repeat("n", 20)
	path, told := "", "tree"
	for id := range 30 {
		chain = append(chain, fmt.Sprintf("move WHO %d %d %s", id+2, max(0, id+1)*min(1, id), long), "ok")
		path += "/" + long
		told += " " + path
	}
	wantTalk(t, "the longest path", append(chain, "tree WHO", told, "find WHO "+path, "31", "rows WHO 2 31", "path="+path)...)
}

func TestFindLines(t *testing.T) {
	wantTalk(t, "paths",
		"move WHO 2 0 a", "ok",
		"move WHO 3 0 a", "ok",
		"move WHO 4 3 b", "ok",
		"move WHO 5 2 c", "ok",
		"move WHO 6 1 t", "ok",
		"move WHO 7 6 b", "ok",
		"move WHO 1000000 7 d", "ok",
		"find WHO /a", "2",
		"find WHO /a/b", "4",
		"find WHO /a/c", "5",
		"find WHO ~/t", "6",
		"find WHO ~/t/b", "7",
		"find WHO ~/t/b/d", "1000000",
		"find WHO /t", "-",
		"find WHO ~/a", "-",
		"find WHO /a/d", "-",
		"find WHO /a/b/c", "-",
		"find OTHER /a", "-",
		"find OTHER ~/t", "-",
	)
	for _, path := range []string{"a", "-", "~", "/", "~/", "//", "//a", "/a/", "/a//b", "~~/t", "~t", "/~/t", "/A", "/0", "0", "2", ".", "/\xff", "/\x00", "/a\r", "/a\t", "/é", "/" + strings.Repeat("/a", 1000)} {
		wantTalk(t, "a path that leads nowhere", "find WHO "+path, "-", "move WHO 2 0 a", "ok", "move WHO 3 2 b", "ok", "move WHO 4 1 t", "ok", "find WHO "+path, "-", "find WHO /a/b", "3")
	}
}

func TestPropLines(t *testing.T) {
	wantTalk(t, "props",
		"prop WHO 2 k", "prop -",
		"move WHO 2 0 a", "ok",
		"prop WHO 2 k", "prop -",
		"set WHO 2 k v", "ok",
		"prop WHO 2 k", "prop v",
		"prop WHO 2 kk", "prop -",
		"prop WHO 2 K", "prop -",
		"prop WHO 2 \xff", "prop -",
		"prop WHO 3 k", "prop -",
		"prop WHO 0 k", "prop -",
		"prop WHO 1 k", "prop -",
		"prop WHO 999999999 k", "prop -",
		"set WHO 2 k -", "ok",
		"prop WHO 2 k", "prop -",
		"set WHO 2 k --", "ok",
		"prop WHO 2 k", "prop --",
		"prop OTHER 2 k", "prop -",
		"move WHO 2 1 b", "ok",
		"prop WHO 2 k", "prop --",
	)
}

func TestRowsLines(t *testing.T) {
	wantTalk(t, "rows of an empty tree",
		"rows WHO 1 0", "-", "rows WHO 1 1", "-", "rows WHO 1 2", "-",
		"rows WHO 2 0", "-", "rows WHO 2 1", "-", "rows WHO 2 2", "-",
		"rows WHO 3 0", "under=0", "rows WHO 3 1", "under=0", "rows WHO 3 2", "-",
		"rows WHO 4 0", "-", "rows WHO 4 1", "-", "rows WHO 4 2", "-",
	)
	ahead := []string{
		"move WHO 100001 0 z", "ok",
		"move WHO 1000000 0 a", "ok",
		"move WHO 2 0 m", "ok",
		"move WHO 3 2 y", "ok",
		"move WHO 4 1 t", "ok",
		"move WHO 5 4 u", "ok",
		"move WHO 6 4 u", "ok",
		"set WHO 2 l w", "ok",
		"set WHO 2 k0 v=v", "ok",
		"set WHO 2 k v", "ok",
		"set WHO 4 path nowhere", "ok",
	}
	wantTalk(t, "rows of each Kind", append(ahead,
		"rows WHO 1 0", "000002=m 1000000=a 100001=z",
		"rows WHO 1 1", "000004=t",
		"rows WHO 1 2", "000003=y",
		"rows WHO 1 3", "-",
		"rows WHO 1 4", "000005=u 000006=u",
		"rows WHO 2 2", "path=/m",
		"rows WHO 2 3", "path=/m/y",
		"rows WHO 2 6", "path=~/t/u",
		"rows WHO 2 1000000", "path=/a",
		"rows WHO 2 0", "-",
		"rows WHO 2 1", "-",
		"rows WHO 3 0", "under=4",
		"rows WHO 3 1", "under=3",
		"rows WHO 3 2", "under=1",
		"rows WHO 3 3", "under=0",
		"rows WHO 4 2", "k=v k0=v=v l=w",
		"rows WHO 4 4", "path=nowhere",
		"rows WHO 4 3", "-",
		"rows WHO 4 0", "-",
		"rows WHO 4 1", "-",
		"rows OTHER 1 0", "-",
		"rows OTHER 4 2", "-",
	)...)
	var none []string
	for _, kind := range []string{"0", "5", "6", "10", "257", "999999999"} {
		for _, node := range []string{"0", "1", "2"} {
			none = append(none, "rows WHO "+kind+" "+node, "-")
		}
	}
	for _, kind := range []string{"1", "2", "3", "4"} {
		none = append(none, "rows WHO "+kind+" 7", "-", "rows WHO "+kind+" 999999999", "-")
	}
	wantTalk(t, "rows of none", append(ahead, none...)...)
}
