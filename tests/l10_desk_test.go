package tests

import (
	"fmt"
	"regexp"
	"slices"
	"strconv"
	"strings"
	"testing"

	"loop.example/g00378/impl"
)

// The desk by hand, by the words of chapter 11, with the calls by hand of the
// chapters ahead of it.

var formsByHand = func() []*regexp.Regexp {
	var l []*regexp.Regexp
	for _, form := range []string{"move WHO N N WORD", "set WHO N WORD WORD", "sync WHO", "tree WHO", "find WHO WORD", "prop WHO N WORD", "rows WHO N N"} {
		form = strings.ReplaceAll(form, "WHO", "([ab])")
		form = strings.ReplaceAll(form, "N", "(0|[1-9][0-9]{0,8})")
		form = strings.ReplaceAll(form, "WORD", `([^ \n]+)`)
		l = append(l, regexp.MustCompile(`\A()`+form+`\n\z`))
	}
	return l
}()

// partsByHand: the first word of a line, and what stands for those in capitals;
// nil, if it is no line.
func partsByHand(line string) []string {
	for _, form := range formsByHand {
		if parts := form.FindStringSubmatch(line); parts != nil {
			parts[1], _, _ = strings.Cut(line, " ")
			return parts[1:]
		}
	}
	return nil
}

type deskModel struct {
	hands  map[string]impl.Client
	server impl.Server
	saw    map[string]int
}

func newDeskModel() *deskModel {
	return &deskModel{hands: map[string]impl.Client{"a": {Replica: 1}, "b": {Replica: 2}}, saw: map[string]int{}}
}

func numOf(digits string) int64 {
	n, err := strconv.Atoi(digits)
	if err != nil {
		panic(err)
	}
	return int64(n)
}

func treeByHand(log []impl.Op) impl.Tree {
	var t impl.Tree
	for _, o := range log {
		t = doneByHand(t, o)
	}
	return t
}

func (d *deskModel) keep(who string, told impl.ClientOut) bool {
	if told.Code == impl.OK {
		d.hands[who] = told.Client
	}
	return told.Code == impl.OK
}

func (d *deskModel) act(who string, o impl.Op) string {
	told := actByHand(d.hands[who], o)
	if !d.keep(who, told) {
		return fmt.Sprint("error ", told.Code)
	}
	return "ok"
}

// sync panics where no text of MaxDesk lines leads.
func (d *deskModel) sync(who string) string {
	c := d.hands[who]
	up := uploadByHand(d.server, c.Replica, c.Acked, c.Out)
	if up.Code != impl.OK || !d.keep(who, ackByHand(c, up.Many)) {
		panic("what is synced does not come up")
	}
	d.server = up.Server
	c = d.hands[who]
	told := takeByHand(c, c.Got, d.server.Ops[c.Got:])
	if !d.keep(who, told) {
		panic("what is synced does not come down")
	}
	return fmt.Sprint("ok ", told.Many)
}

func pathsByHand(t impl.Tree, node int64) string {
	told := ""
	for _, id := range childrenByHand(t, node) {
		told += " " + pathByHand(t, id) + pathsByHand(t, id)
	}
	return told
}

func (d *deskModel) ask(t impl.Tree, l []string) string {
	switch l[0] {
	case "tree":
		return "tree" + pathsByHand(t, 0)
	case "find":
		if id := findByHand(t, l[2]); id != -1 {
			return fmt.Sprint(id)
		}
	case "prop":
		if n := nodeIn(t, numOf(l[2])); n != nil {
			for _, p := range n.Props {
				if p.Key == l[3] {
					return "prop " + p.Value
				}
			}
		}
		return "prop -"
	case "rows":
		var told []string
		for _, r := range rowsByHand(t, impl.Query{Kind: numOf(l[2]), Node: numOf(l[3])}) {
			told = append(told, r.Key+"="+r.Value)
		}
		if len(told) > 0 {
			return strings.Join(told, " ")
		}
	}
	return "-"
}

func (d *deskModel) tell(l []string) string {
	switch who := l[1]; l[0] {
	case "move":
		return d.act(who, mv(numOf(l[2]), numOf(l[3]), l[4]))
	case "set":
		return d.act(who, set(numOf(l[2]), l[3], l[4]))
	case "sync":
		return d.sync(who)
	default:
		return d.ask(treeByHand(d.hands[who].Log), l)
	}
}

// linesByHand: those of a text, each with its line feed, if it has one.
func linesByHand(text string) []string {
	lines := strings.SplitAfter(text, "\n")
	if last := len(lines) - 1; lines[last] == "" {
		lines = lines[:last]
	}
	return lines
}

func faultByHand(text string) impl.DeskOut {
	if len(text) > 8000 {
		return impl.DeskOut{Code: impl.ErrSize}
	}
	for i, line := range linesByHand(text) {
		if i == 40 || partsByHand(line) == nil {
			return impl.DeskOut{Line: int64(i), Code: impl.ErrSyntax}
		}
	}
	return impl.DeskOut{}
}

// run is what a text tells that has no fault; saw counts what is told of.
func (d *deskModel) run(text string) string {
	told := ""
	for _, line := range linesByHand(text) {
		l := partsByHand(line)
		says := d.tell(l)
		kind := regexp.MustCompile(`[0-9]+`).ReplaceAllString(says, "n")
		if l[0] == "move" || l[0] == "set" {
			kind = says
		}
		d.saw[l[0]+": "+kind]++
		told += says + "\n"
	}
	return told
}

func deskByHand(text string) impl.DeskOut {
	out := faultByHand(text)
	if out.Code == impl.OK {
		out.Text = newDeskModel().run(text)
	}
	return out
}

// feeds: lines, each with its line feed.
func feeds(lines ...string) string {
	text := ""
	for _, line := range lines {
		text += line + "\n"
	}
	return text
}

// wantDesk holds a text against what it must tell, and against the desk by
// hand.
func wantDesk(t *testing.T, what string, text string, want impl.DeskOut) {
	t.Helper()
	what = fmt.Sprintf("%s, %.200q", what, text)
	got := impl.DeskRun(text)
	if got != want {
		t.Errorf("%s: got %+v, want %+v", what, got, want)
	}
	if byHand := deskByHand(text); byHand != want {
		t.Errorf("%s: by hand got %+v, want %+v", what, byHand, want)
	}
	without := want
	without.Text = ""
	if fault := impl.DeskFault(text); fault != without {
		t.Errorf("%s: DeskFault tells %+v, want %+v", what, fault, without)
	}
	if again := impl.DeskRun(text); again != want {
		t.Errorf("%s: once more got %+v, want %+v", what, again, want)
	}
	if got.Code == impl.OK && strings.Count(got.Text, "\n") != strings.Count(text, "\n") {
		t.Errorf("%s: other many lines are told: %q", what, got.Text)
	}
}

// wantTalk holds lines, each with what it tells behind it, for a and for b:
// WHO is the one, and OTHER the other one.
func wantTalk(t *testing.T, what string, talk ...string) {
	t.Helper()
	for _, who := range [][]string{{"WHO", "a", "OTHER", "b"}, {"WHO", "b", "OTHER", "a"}} {
		var lines, told []string
		for i, words := range talk {
			if i%2 == 0 {
				lines = append(lines, strings.NewReplacer(who...).Replace(words))
			} else {
				told = append(told, words)
			}
		}
		wantDesk(t, what+", of "+who[1], feeds(lines...), impl.DeskOut{Text: feeds(told...)})
	}
}

// wantFault: a text of which nothing is told.
func wantFault(t *testing.T, what string, text string, line int64, code int64) {
	t.Helper()
	wantDesk(t, what, text, impl.DeskOut{Line: line, Code: code})
}

func TestTheWordsOfTheDesk(t *testing.T) {
	want := []string{"find", "move", "prop", "rows", "set", "sync", "tree"}
	got := impl.DeskWords()
	if !slices.Equal(got, want) {
		t.Errorf("got %q, want %q", got, want)
	}
	clear(got[:cap(got)])
	again := impl.DeskWords()
	if !slices.Equal(again, want) {
		t.Errorf("who writes to the words writes to those of the next call: %q", again)
	}
	other := impl.DeskWords()
	other[0] = "other"
	_ = append(other[:1], "another")
	if !slices.Equal(again, want) {
		t.Errorf("two calls share memory: %q", again)
	}
	wantDesk(t, "behind that the words are known still", "tree a\n", impl.DeskOut{Text: "tree\n"})
}

// Each word begins a line, and no other one does.
func TestLinesBeginWithTheWords(t *testing.T) {
	behind := []string{"", " a", " a 2", " a 2 0", " a 2 0 x", " a 2 k v", " a x", " a x y"}
	var begin []string
	for _, word := range []string{"ask", "find", "follow", "move", "prop", "quit", "rows", "set", "sync", "tree", "under"} {
		for _, words := range behind {
			if impl.DeskFault(word+words+"\n").Code == impl.OK {
				begin = append(begin, word)
				break
			}
		}
	}
	if !slices.Equal(begin, impl.DeskWords()) {
		t.Errorf("lines begin with %q", begin)
	}
}

func TestAnEmptyText(t *testing.T) {
	wantDesk(t, "an empty text", "", impl.DeskOut{})
}

// Nothing is kept from one call to the next, whatever comes between.
func TestDesksAreNew(t *testing.T) {
	first := feeds("move a 2 0 x", "set a 2 k v", "sync a")
	looks := feeds("tree a", "find b /x", "prop a 2 k", "rows b 3 0", "sync a", "sync b", "set a 2 k v", "move b 3 2 y")
	nothing := impl.DeskOut{Text: feeds("tree", "-", "prop -", "under=0", "ok 0", "ok 0", "error 6", "error 6")}
	wantDesk(t, "a new desk", looks, nothing)
	for range 3 {
		wantDesk(t, "some deeds", first, impl.DeskOut{Text: feeds("ok", "ok", "ok 0")})
		wantDesk(t, "a new desk", looks, nothing)
		wantFault(t, "some deeds and a fault", first+"tree\n", 3, impl.ErrSyntax)
		wantDesk(t, "a new desk", looks, nothing)
	}
}

// What is told is no piece of the text, whatever words it says again.
func TestWhatIsToldIsNewMemory(t *testing.T) {
	text := feeds("move a 2 0 name_of_it", "set a 2 key value_of_it", "prop a 2 key", "tree a", "rows a 4 2")
	told := impl.DeskRun(text).Text
	for _, word := range []string{"value_of_it", "name_of_it", "key"} {
		at := strings.Index(told, word)
		if at < 0 || sharesMemory(text, told[at:at+len(word)]) {
			t.Errorf("%q is a piece of the text, or is not told: %q", word, told)
		}
	}
}
