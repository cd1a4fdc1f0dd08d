package tests

import (
	"fmt"
	"slices"
	"strings"
	"testing"

	"loop.example/g00378/impl"
)

// rightLines: each line of the table, for a and for b.
func rightLines() []string {
	var l []string
	for _, who := range []string{"a", "b"} {
		l = append(l, "move "+who+" 2 0 x", "set "+who+" 2 k v", "sync "+who, "tree "+who, "find "+who+" /x", "prop "+who+" 2 k", "rows "+who+" 1 0")
	}
	return l
}

// wantWrong: a line that is none, in each place among others, and as the last
// one that a text may have.
func wantWrong(t *testing.T, what string, line string) {
	t.Helper()
	for _, ahead := range [][]string{nil, {"tree a"}, {"move a 2 0 x", "sync a", "tree b"}, slices.Repeat([]string{"move b 2 0 x"}, 39)} {
		for _, behind := range [][]string{nil, {"tree a"}, {line, "sync a"}} {
			wantFault(t, what, feeds(slices.Concat(ahead, []string{line}, behind)...), int64(len(ahead)), impl.ErrSyntax)
		}
	}
}

func TestRightLinesAreRight(t *testing.T) {
	for _, line := range rightLines() {
		if got := impl.DeskFault(line + "\n"); got != (impl.DeskOut{}) {
			t.Errorf("%q: got %+v", line, got)
		}
	}
}

func TestOtherManyWords(t *testing.T) {
	for _, line := range rightLines() {
		words := strings.Split(line, " ")
		for many := 1; many < len(words); many++ {
			wantWrong(t, "too few words", strings.Join(words[:many], " "))
		}
		for at := range words {
			wantWrong(t, "a word is left out", strings.Join(slices.Delete(slices.Clone(words), at, at+1), " "))
			wantWrong(t, "a word is there twice", strings.Join(slices.Insert(slices.Clone(words), at, words[at]), " "))
		}
		for _, more := range []string{"x", "0", "a", "-", words[0]} {
			wantWrong(t, "a word too many", line+" "+more)
			wantWrong(t, "a word ahead", more+" "+line)
			wantWrong(t, "many words too many", line+strings.Repeat(" "+more, 9))
		}
	}
}

func TestBlanks(t *testing.T) {
	for _, line := range rightLines() {
		wantWrong(t, "a blank at the front", " "+line)
		wantWrong(t, "a blank at the end", line+" ")
		wantWrong(t, "blanks around it", " "+line+" ")
		wantWrong(t, "two blanks at the end", line+"  ")
		for at := range len(line) {
			if line[at] == ' ' {
				wantWrong(t, "two blanks", line[:at]+" "+line[at:])
				wantWrong(t, "three blanks", line[:at]+"  "+line[at:])
				wantWrong(t, "no blank", line[:at]+line[at+1:])
				wantWrong(t, "an empty word in place of one", line[:at]+"  "+strings.Join(strings.Split(line[at+1:], " ")[1:], " "))
				for _, other := range []string{"\t", "\r", "\x00", "\v", "\f", "\u00a0", "\u2002", "\u3000", "_", "\u0120", "\xc0\xa0", "\xa0", "\x85", "\u0085"} {
					wantWrong(t, "another sign for a blank", line[:at]+other+line[at+1:])
				}
			}
		}
	}
	for _, line := range []string{"", " ", "  ", "   ", "    ", strings.Repeat(" ", 100)} {
		wantWrong(t, "nothing but blanks", line)
	}
}

func TestWordsThatBeginNoLine(t *testing.T) {
	for _, line := range rightLines() {
		word, rest, _ := strings.Cut(line, " ")
		for _, begin := range []string{
			strings.ToUpper(word), strings.ToUpper(word[:1]) + word[1:], word[:3] + strings.ToUpper(word[3:]) + "s", word + "s", word[:len(word)-1], word[1:],
			word + ":", word + "\x00", word + "\r", "\ufeff" + word, "\xff" + word, word + "\xff", word + "\t", "#" + word, "-", "a", "b", "0", "ok", "error", "mové", "quit", word + word,
		} {
			wantWrong(t, "a word that begins no line", begin+" "+rest)
		}
	}
}

func TestWhoIsNeitherANorB(t *testing.T) {
	for _, line := range rightLines() {
		words := strings.Split(line, " ")
		for _, who := range []string{"A", "B", "c", "ab", "ba", "aa", "bb", "a,", "a\r", "b\x00", "\xff", "a\xff", "á", "ａ", "0", "1", "2", "WHO", "-", "who", "`", "\ufeffa"} {
			words[1] = who
			wantWrong(t, "a WHO that is neither", strings.Join(words, " "))
		}
		words[1] = ""
		wantWrong(t, "an empty WHO", strings.Join(words, " "))
	}
}

// wrongNumbers: with a needless nought, of ten digits and more, with a sign, or
// with another sign than a digit.
func wrongNumbers() []string {
	return []string{
		"", "00", "01", "02", "007", "0000000002", "000000000", "0999999999", "1000000000", "1234567890", "9999999999", "2147483648", "4294967298", "9223372036854775807", "9223372036854775808",
		"18446744073709551616", "18446744073709551618", strings.Repeat("9", 40), strings.Repeat("0", 9), "-0", "-1", "-2", "+0", "+2", "+1", "--2", "2-", "2+",
		"2.0", "2.", ".2", "2,0", "2_0", "2e0", "1e3", "0x2", "0b1", "0o2", "2h", "h2", "x", "a", "N", "2\x00", "\x002", "2\r", "2\t", "\xff", "2\xff", "\xb2", "²", "٢", "２", "½", "2\u00a0", "/", ":", "1/", "1:", "Inf", "NaN",
	}
}

// numberPlaces: lines with each of their numbers in turn.
func numberPlaces(number string) []string {
	return []string{
		"move a " + number + " 0 x", "move b 2 " + number + " x", "set b " + number + " k v", "prop a " + number + " k", "rows a " + number + " 0", "rows b 1 " + number, "rows a " + number + " " + number,
	}
}

func TestNumbersThatAreNone(t *testing.T) {
	for _, number := range wrongNumbers() {
		for _, line := range numberPlaces(number) {
			wantWrong(t, "a number that is none", line)
		}
	}
}

func TestNumbersThatAreOne(t *testing.T) {
	for _, number := range []string{"0", "1", "2", "9", "10", "11", "90", "100", "109", "200", "1000", "12345", "99999", "100000", "999999", "1000000", "1000001", "10000000", "99999999", "100000000", "123456789", "999999999"} {
		for _, line := range numberPlaces(number) {
			if got := impl.DeskFault(line + "\n"); got != (impl.DeskOut{}) {
				t.Errorf("%q: got %+v", line, got)
			}
		}
		text := feeds(append(numberPlaces(number), numberPlaces(number)...)...)
		wantDesk(t, "numbers that are right", text, deskByHand(text))
	}
	// Each digit counts.
	for _, node := range []string{"2", "20", "302", "4567", "89012", "345678", "1000000"} {
		wantTalk(t, "a node's number", "move WHO "+node+" 0 x", "ok", "move WHO "+node+" "+node+" x", "error 10", "find WHO /x", node, "set WHO "+node+" k v", "ok", "prop WHO "+node+" k", "prop v", "rows WHO 2 "+node, "path=/x")
	}
}

// Each byte in each place of a line, and one in addition, is as it is by hand.
func TestEachByteOfALine(t *testing.T) {
	for _, line := range rightLines() {
		for at := range len(line) + 1 {
			for b := range 256 {
				with := line[:at] + string([]byte{byte(b)}) + line[at:] + "\n"
				texts := []string{with}
				if at < len(line) {
					texts = append(texts, line[:at]+string([]byte{byte(b)})+line[at+1:]+"\n")
				}
				for _, text := range texts {
					if got, want := impl.DeskFault(text), faultByHand(text); got != want {
						t.Errorf("%q: got %+v, want %+v", text, got, want)
					}
				}
			}
			short := line[:at] + "\n"
			if got, want := impl.DeskFault(short), faultByHand(short); got != want {
				t.Errorf("%q: got %+v, want %+v", short, got, want)
			}
		}
	}
}

func TestLinesThatLackTheirFeed(t *testing.T) {
	for _, line := range rightLines() {
		wantFault(t, "the only line", line, 0, impl.ErrSyntax)
		wantFault(t, "the second line", "tree a\n"+line, 1, impl.ErrSyntax)
		wantFault(t, "the last line that may be", strings.Repeat("move a 2 0 x\n", 39)+line, 39, impl.ErrSyntax)
		wantFault(t, "one too many", strings.Repeat("move a 2 0 x\n", 40)+line, 40, impl.ErrSyntax)
		for many := range len(line) {
			if many > 0 {
				wantFault(t, "a line cut off", "sync a\nsync b\n"+line[:many], 2, impl.ErrSyntax)
			}
		}
		for _, end := range []string{"\r", "\r\n", "\x00", "\v", "\u2028", "\u0085", "\u010a", "\xc0\x8a", "\n\r", "\n ", "\n\n", "\nx", "\n\x00", "\n\xff"} {
			text := "sync a\n" + line + end
			want := deskByHand(text)
			// A byte 13 ahead of the line feed is one of the last word, if that may be
			// any one.
			free := slices.Contains([]string{"find", "move", "prop", "set"}, strings.Split(line, " ")[0])
			if right := want.Code == impl.OK; right != (free && end == "\r\n") {
				t.Errorf("%q by hand: %+v", text, want)
			}
			wantDesk(t, "another end", text, want)
		}
	}
	wantFault(t, "an empty line at the front", "\nsync a\n", 0, impl.ErrSyntax)
	wantFault(t, "an empty line between", "sync a\n\nsync a\n", 1, impl.ErrSyntax)
	wantFault(t, "an empty line at the end", "sync a\n\n", 1, impl.ErrSyntax)
	wantFault(t, "a line feed", "\n", 0, impl.ErrSyntax)
	wantFault(t, "a blank", " ", 0, impl.ErrSyntax)
	wantFault(t, "a byte", "\xff", 0, impl.ErrSyntax)
}

// The first line that is at fault is told, of whatever kind the fault is.
func TestTheFirstFault(t *testing.T) {
	wrong := []string{"", " ", "tree", "tree c", "sync a ", "move a 02 0 x", "set a 2 k", "TREE a", "rows a 1 0 0", "\xff"}
	for first := range 42 {
		for second := range 44 {
			lines := slices.Repeat([]string{"tree a"}, 44)
			lines[second] = wrong[second%len(wrong)]
			lines[first] = wrong[first%len(wrong)]
			for _, many := range []int{first + 1, second + 1, 41, 44} {
				text := feeds(lines[:many]...)
				want := faultByHand(text)
				if least := int64(min(first, second, 40)); many > int(least) && (want.Line != least || want.Code != impl.ErrSyntax) {
					t.Errorf("by hand %d and %d of %d: %+v", first, second, many, want)
				}
				if got := impl.DeskFault(text); got != want {
					t.Errorf("%d and %d of %d: got %+v, want %+v", first, second, many, got, want)
				}
				cut := strings.TrimSuffix(text, "\n")
				if got := impl.DeskFault(cut); got != faultByHand(cut) {
					t.Errorf("%d and %d of %d, cut: got %+v, want %+v", first, second, many, got, faultByHand(cut))
				}
			}
		}
	}
}

// A fault in a later line leaves nothing told of the earlier ones.
func TestNothingIsToldBesideAFault(t *testing.T) {
	ahead := []string{"move a 2 0 x", "set a 2 k v", "sync a", "sync b", "tree b", "find b /x", "prop b 2 k", "rows b 1 0"}
	wantDesk(t, "no fault", feeds(ahead...), impl.DeskOut{Text: feeds("ok", "ok", "ok 0", "ok 2", "tree /x", "2", "prop v", "000002=x")})
	for many := range len(ahead) + 1 {
		wantFault(t, "a fault behind right lines", feeds(append(slices.Clone(ahead[:many]), "tree c")...), int64(many), impl.ErrSyntax)
		wantFault(t, "a fault among right lines", feeds(append(append(slices.Clone(ahead[:many]), "tree"), ahead...)...), int64(many), impl.ErrSyntax)
		wantFault(t, "no line feed behind right lines", feeds(ahead[:many]...)+"tree a", int64(many), impl.ErrSyntax)
	}
}

func TestMaxDesk(t *testing.T) {
	for _, line := range rightLines() {
		for _, many := range []int{1, 2, 38, 39, 40} {
			text := strings.Repeat(line+"\n", many)
			want := deskByHand(text)
			if want.Code != impl.OK || strings.Count(want.Text, "\n") != many {
				t.Errorf("by hand %d times %q: %+v", many, line, want)
			}
			wantDesk(t, fmt.Sprint(many, " lines"), text, want)
		}
		for _, many := range []int{41, 42, 80, 400, 401} {
			wantFault(t, fmt.Sprint(many, " lines"), strings.Repeat(line+"\n", many), 40, impl.ErrSyntax)
		}
		most := strings.Repeat(line+"\n", 40)
		for _, more := range []string{"\n", "x", "x\n", " ", "\x00", "tree c\n", "tree\n", line, "\n" + line + "\n", line + "\n\n"} {
			wantFault(t, "MaxDesk lines and something more", most+more, 40, impl.ErrSyntax)
		}
	}
	wantFault(t, "so many lines as may be", strings.Repeat("tree a\n", 1142), 40, impl.ErrSyntax)
	wantFault(t, "nothing but line feeds", strings.Repeat("\n", 8000), 0, impl.ErrSyntax)
	wantFault(t, "nothing but blanks", strings.Repeat(" ", 8000), 0, impl.ErrSyntax)
	wantFault(t, "nothing but bytes", strings.Repeat("\xff", 8000), 0, impl.ErrSyntax)
}

// filled: a text of that size, of right lines, the last one with a word that
// fills it.
func filled(size int, lines ...string) string {
	text := feeds(lines...) + "find a "
	return text + strings.Repeat("/", size-len(text)-1) + "\n"
}

func TestTextsOfMaxBytes(t *testing.T) {
	for _, size := range []int{7999, 8000} {
		wantDesk(t, "one line", filled(size), impl.DeskOut{Text: "-\n"})
		wantDesk(t, "three lines", filled(size, "move a 2 0 x", "tree a"), impl.DeskOut{Text: "ok\ntree /x\n-\n"})
		wantDesk(t, "MaxDesk lines", filled(size, slices.Repeat([]string{"sync a"}, 39)...), impl.DeskOut{Text: strings.Repeat("ok 0\n", 39) + "-\n"})
		wantFault(t, "one line more", filled(size, slices.Repeat([]string{"sync a"}, 40)...), 40, impl.ErrSyntax)
		wantFault(t, "a wrong line", filled(size, "sync a", "sync"), 1, impl.ErrSyntax)
		long := filled(size + 1)
		wantFault(t, "no line feed", long[:size], 0, impl.ErrSyntax)
		value := "set a 2 k " + strings.Repeat("v", size-24)
		wantDesk(t, "a long value", feeds("move a 2 0 x", value), impl.DeskOut{Text: "ok\nerror 1\n"})
		key := "prop a 2 " + strings.Repeat("k", size-10)
		wantDesk(t, "a long key", key+"\n", impl.DeskOut{Text: "prop -\n"})
		name := "move a 2 0 " + strings.Repeat("x", size-12)
		wantDesk(t, "a long name", name+"\n", impl.DeskOut{Text: "error 1\n"})
	}
	for _, size := range []int{8001, 8002, 9000, 65536, 1 << 20} {
		wantFault(t, "one line", filled(size), 0, impl.ErrSize)
		wantFault(t, "three lines", filled(size, "move a 2 0 x", "tree a"), 0, impl.ErrSize)
		wantFault(t, "a wrong line", filled(size, "sync a", "sync"), 0, impl.ErrSize)
		wantFault(t, "too many lines", filled(size, slices.Repeat([]string{"sync a"}, 50)...), 0, impl.ErrSize)
		wantFault(t, "no line feed", strings.Repeat("x", size), 0, impl.ErrSize)
		wantFault(t, "nothing but line feeds", strings.Repeat("\n", size), 0, impl.ErrSize)
		wantFault(t, "nothing but noughts", strings.Repeat("\x00", size), 0, impl.ErrSize)
	}
}
