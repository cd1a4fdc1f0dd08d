package tests

import (
	"fmt"
	"slices"
	"strings"
	"testing"

	"loop.example/g00378/impl"
)

// rowsOf: of a Key and a Value each.
func rowsOf(texts ...string) []impl.Row {
	var l []impl.Row
	for i := 0; i+1 < len(texts); i += 2 {
		l = append(l, impl.Row{Key: texts[i], Value: texts[i+1]})
	}
	return l
}

// manyRows: as many with rising Keys.
func manyRows(many int) []impl.Row {
	var l []impl.Row
	for i := range many {
		l = append(l, impl.Row{Key: fmt.Sprintf("key_%05d", i), Value: fmt.Sprintf("value_%d", i)})
	}
	return l
}

// wrongRows: none of them right, each for one reason.
func wrongRows() map[string][]impl.Row {
	turned := manyRows(3)
	slices.Reverse(turned)
	late := manyRows(impl.MaxOps)
	late[impl.MaxOps-1].Key = late[impl.MaxOps-2].Key
	return map[string][]impl.Row{
		"one more than MaxOps":               manyRows(impl.MaxOps + 1),
		"MaxList":                            manyRows(impl.MaxList),
		"one more than MaxList":              manyRows(impl.MaxList + 1),
		"many more than MaxList":             manyRows(5000),
		"one Key twice":                      rowsOf("a", "1", "a", "2"),
		"one Key twice, of one Value":        rowsOf("a", "1", "a", "1"),
		"the empty Key twice":                rowsOf("", "1", "", "2"),
		"one Key twice, another between":     rowsOf("a", "1", "b", "2", "a", "3"),
		"the last Key of MaxOps twice":       late,
		"Keys that fall":                     turned,
		"Keys that fall at last":             rowsOf("a", "1", "c", "2", "b", "3"),
		"a Key behind one that it begins":    rowsOf("ab", "1", "a", "2"),
		"the empty Key behind another":       rowsOf("a", "1", "", "2"),
		"Keys that rise only as numbers":     rowsOf("9", "1", "10", "2"),
		"Keys that rise only as letters":     rowsOf("a", "1", "B", "2"),
		"Keys that fall at a byte above 127": rowsOf("\xff", "1", "z", "2"),
		"Keys of Values that rise":           rowsOf("b", "1", "a", "2"),
	}
}

func wantRows(t *testing.T, what string, l []impl.Row, want bool) {
	t.Helper()
	was := slices.Clone(l)
	if got := impl.RowsRight(l); got != want {
		t.Errorf("RowsRight of %s: got %v, want %v", what, got, want)
	}
	if !slices.Equal(l, was) {
		t.Errorf("RowsRight of %s: the rows that are handed in are not as they were", what)
	}
}

func TestRightRows(t *testing.T) {
	wantRows(t, "none", nil, true)
	wantRows(t, "an empty list", []impl.Row{}, true)
	wantRows(t, "the zero Row", []impl.Row{{}}, true)
	for _, many := range []int{1, 2, 3, impl.MaxOps - 1, impl.MaxOps} {
		wantRows(t, fmt.Sprint(many, " rows"), manyRows(many), true)
	}
	wantRows(t, "a Key that begins another", rowsOf("", "1", "a", "2", "a\x00", "3", "aa", "4", "ab", "5"), true)
	wantRows(t, "Keys of any bytes", rowsOf("\x00", "", "\n", "", " ", "", "10", "", "9", "", "B", "", "a", "", "\x7f", "", "\x80", "", "\xff", ""), true)
	wantRows(t, "Values that fall", rowsOf("a", "2", "b", "1", "c", ""), true)
	wantRows(t, "Values that are alike", rowsOf("a", "v", "b", "v", "c", "v"), true)
	great := strings.Repeat("k", impl.MaxBytes)
	wantRows(t, "great texts within the list", rowsOf(great, great, great+"k", great+"v", great+"kk", ""), true)
}

func TestWrongRows(t *testing.T) {
	for what, l := range wrongRows() {
		wantRows(t, what, l, false)
	}
}

func TestWrongRowsAtEachPlace(t *testing.T) {
	for at := 1; at < impl.MaxOps; at++ {
		twice := manyRows(impl.MaxOps)
		twice[at].Key = twice[at-1].Key
		wantRows(t, fmt.Sprint("one Key twice at ", at), twice, false)
		falling := manyRows(impl.MaxOps)
		falling[at], falling[at-1] = falling[at-1], falling[at]
		wantRows(t, fmt.Sprint("Keys that fall at ", at), falling, false)
	}
}
