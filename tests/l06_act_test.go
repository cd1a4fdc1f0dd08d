package tests

import (
	"fmt"
	"math"
	"strings"
	"testing"

	"loop.example/g00378/impl"
)

// treeClient: of the replica 4, at the Clock 20: 3 in 2, 4 in 3, 5 in the
// trash; the node 6 was moved below none, so there is none.
func treeClient() impl.Client {
	return impl.Client{Replica: 4, Clock: 20, Acked: 1, Got: 3,
		Log: []impl.Op{moveOp(1, 4, 2, 0, "a"), moveOp(2, 1, 3, 2, "b"), setOp(2, 4, 2, "k", "v"), moveOp(3, 9, 4, 3, "c"), moveOp(4, 9, 5, 1, "d"), moveOp(5, 4, 6, 77, "e")},
		Out: []impl.Op{setOp(2, 4, 2, "k", "v"), moveOp(5, 4, 6, 77, "e")},
	}
}

// with: what is told of a deed that is done.
func with(c impl.Client, o impl.Op) impl.ClientOut {
	return impl.ClientOut{Op: o, Client: changed(c, func(c *impl.Client) {
		c.Log, c.Out, c.Clock = append(c.Log, o), append(c.Out, o), o.Time
	})}
}

func TestMovesThatAreDone(t *testing.T) {
	fresh := impl.ClientNew(7)
	first := moveOp(1, 7, 2, 0, "a")
	told := wantMoved(t, "the first one", fresh, 2, 0, "a", impl.ClientOut{Op: first, Client: impl.Client{Replica: 7, Clock: 1, Log: []impl.Op{first}, Out: []impl.Op{first}}})
	wantMoved(t, "the second one", told.Client, 3, 2, "b", with(told.Client, moveOp(2, 7, 3, 2, "b")))
	c := treeClient()
	most := strings.Repeat("z", 20)
	for _, m := range []struct {
		node, parent int64
		name         string
	}{
		{7, 0, "x"}, {7, 1, "x"}, {7, 2, "x"}, {7, 4, "x"}, {7, 5, "x"}, {6, 4, "x"},
		{impl.MaxTime, 3, "x"}, {7, 3, most}, {7, 3, "a_9"},
		{2, 0, "a"}, {2, 0, "x"}, {2, 1, "a"}, {2, 5, "a"}, {3, 0, "b"}, {3, 2, "b"}, {4, 2, "c"}, {4, 0, "b"}, {5, 4, "d"}, {5, 1, "x"},
	} {
		wantMoved(t, "done", c, m.node, m.parent, m.name, with(c, moveOp(21, 4, m.node, m.parent, m.name)))
	}
}

func TestSetsThatAreDone(t *testing.T) {
	c := treeClient()
	for _, s := range []struct {
		node       int64
		key, value string
	}{
		{2, "k", "v"}, {2, "k", "w"}, {2, "k", ""}, {2, "l", "v"}, {4, "k", "v"}, {5, "k", "v"},
		{3, strings.Repeat("k", 20), strings.Repeat("\xff", 40)}, {3, "k", "\x00\n "},
	} {
		got := wantSet(t, "done", c, s.node, s.key, s.value, with(c, setOp(21, 4, s.node, s.key, s.value)))
		if value := impl.PropOf(impl.TreeOf(got.Client.Log), s.node, s.key); value != s.value {
			t.Errorf("Set of %d: %q is %q", s.node, s.key, value)
		}
	}
}

// The deed is in Log and Out, though the tree has no room for one Key more.
func TestSetAtTwentyKeys(t *testing.T) {
	log := []impl.Op{moveOp(1, 2, 2, 0, "a")}
	for i, p := range manyProps(20) {
		log = append(log, setOp(int64(i+2), 2, 2, p.Key, p.Value))
	}
	c := clientOf(1, log, 0)
	got := wantSet(t, "a new Key", c, 2, "z", "v", with(c, setOp(22, 1, 2, "z", "v")))
	if !sameTree(impl.TreeOf(got.Client.Log), impl.TreeOf(log)) {
		t.Error("the Set of one Key more changed the tree")
	}
	key := manyProps(20)[7].Key
	wantSet(t, "a Key that is there", c, 2, key, "v", with(c, setOp(22, 1, 2, key, "v")))
}

func TestClientsThatAreNotRightDoNothing(t *testing.T) {
	for what, c := range wrongClients() {
		wantMoved(t, what, c, 2, 0, "a", refusedByHand(impl.ErrForm))
		wantMoved(t, what+", no name", c, 2, 0, "", refusedByHand(impl.ErrForm))
		wantMoved(t, what+", no parent", c, 2, 900, "a", refusedByHand(impl.ErrForm))
		wantSet(t, what, c, 2, "k", "v", refusedByHand(impl.ErrForm))
		wantSet(t, what+", no node", c, 900, "k", "v", refusedByHand(impl.ErrForm))
	}
}

// wrongNames: none of them a name, none too long a text.
func wrongNames() []string {
	return []string{"", "_a", "9", "A", "a b", "a\n", "ä", "a\x00", strings.Repeat("z", 21), strings.Repeat("z", impl.MaxBytes)}
}

func TestDeedsOfNoForm(t *testing.T) {
	c := treeClient()
	form := refusedByHand(impl.ErrForm)
	for _, node := range []int64{math.MinInt64, -1, 0, 1, impl.MaxTime + 1, math.MaxInt64} {
		wantMoved(t, "no number of a node", c, node, 0, "a", form)
		wantMoved(t, "no number of a node, no parent", c, node, 99, "a", form)
		wantMoved(t, "no number of a node, below itself", c, node, node, "a", form)
		wantSet(t, "no number of a node", c, node, "k", "v", form)
	}
	for _, parent := range []int64{math.MinInt64, -1, impl.MaxTime + 1, math.MaxInt64} {
		wantMoved(t, "no number of a parent", c, 2, parent, "a", form)
	}
	for _, name := range wrongNames() {
		wantMoved(t, "no name", c, 2, 0, name, form)
		wantMoved(t, "no name, no parent", c, 2, 99, name, form)
		wantMoved(t, "no name, a loop", c, 2, 4, name, form)
		wantSet(t, "no key", c, 2, name, "v", form)
		wantSet(t, "no key, no node", c, 99, name, "v", form)
	}
	for _, size := range []int{41, 42, impl.MaxBytes} {
		wantSet(t, "a great value", c, 2, "k", strings.Repeat("v", size), form)
	}
}

func TestDeedsOfNoNode(t *testing.T) {
	c := treeClient()
	for _, none := range []int64{6, 7, 77, 99, impl.MaxTime} {
		wantMoved(t, "no parent", c, 2, none, "a", refusedByHand(impl.ErrNone))
		wantMoved(t, "no parent, a new node", c, 8, none, "a", refusedByHand(impl.ErrNone))
		wantMoved(t, "no parent, which is the node", c, none, none, "a", refusedByHand(impl.ErrNone))
		wantSet(t, "no node", c, none, "k", "v", refusedByHand(impl.ErrNone))
	}
	wantMoved(t, "no parent in an empty Log", impl.ClientNew(1), 3, 2, "a", refusedByHand(impl.ErrNone))
	wantSet(t, "no node in an empty Log", impl.ClientNew(1), 2, "k", "v", refusedByHand(impl.ErrNone))
}

func TestMovesThatLoop(t *testing.T) {
	c := treeClient()
	for _, m := range [][2]int64{{2, 2}, {2, 3}, {2, 4}, {3, 3}, {3, 4}, {4, 4}, {5, 5}} {
		wantMoved(t, "a loop", c, m[0], m[1], "a", refusedByHand(impl.ErrLoop))
	}
}

func TestDeedsAtTheLastTime(t *testing.T) {
	at := func(clock int64) impl.Client {
		return changed(treeClient(), func(c *impl.Client) { c.Clock = clock })
	}
	last := at(impl.MaxTime - 1)
	told := wantMoved(t, "of the last Time", last, 7, 0, "a", with(last, moveOp(impl.MaxTime, 4, 7, 0, "a")))
	wantSet(t, "of the last Time", last, 2, "k", "w", with(last, setOp(impl.MaxTime, 4, 2, "k", "w")))
	for _, c := range []impl.Client{told.Client, at(impl.MaxTime)} {
		wantMoved(t, "behind the last Time", c, 8, 0, "a", refusedByHand(impl.ErrFull))
		wantSet(t, "behind the last Time", c, 2, "k", "v", refusedByHand(impl.ErrFull))
	}
}

// fullClient: has the nodes 2, and 3 below it, and so many of its own in Out
// and of all in the Log.
func fullClient(out, all int) impl.Client {
	log := []impl.Op{moveOp(1, 3, 2, 0, "a"), moveOp(2, 3, 3, 2, "b")}
	for len(log) < all-out {
		log = append(log, setOp(int64(len(log)+1), 5, 2, "k", "v"))
	}
	for len(log) < all {
		log = append(log, setOp(int64(len(log)+1), 4, 3, "k", "v"))
	}
	return clientOf(4, log, out)
}

func TestDeedsWithoutRoom(t *testing.T) {
	for _, c := range []struct {
		out, all int
		room     bool
	}{
		{impl.MaxOut - 1, 40, true}, {impl.MaxOut, 40, false},
		{0, impl.MaxOps - 1, true}, {0, impl.MaxOps, false},
		{impl.MaxOut - 1, impl.MaxOps - 1, true}, {impl.MaxOut - 1, impl.MaxOps, false},
		{impl.MaxOut, impl.MaxOps - 1, false}, {impl.MaxOut, impl.MaxOps, false},
	} {
		client := fullClient(c.out, c.all)
		time := client.Clock + 1
		moved, set := with(client, moveOp(time, 4, 9, 3, "x")), with(client, setOp(time, 4, 2, "x", "y"))
		if !c.room {
			moved, set = refusedByHand(impl.ErrFull), refusedByHand(impl.ErrFull)
		}
		what := fmt.Sprintf("%d in Out, %d in the Log", c.out, c.all)
		wantMoved(t, what, client, 9, 3, "x", moved)
		wantSet(t, what, client, 2, "x", "y", set)
	}
	// What is acked gives room again.
	full := fullClient(impl.MaxOut, 40)
	acked := wantAcked(t, "one of MaxOut", full, 1, ackByHand(full, 1)).Client
	wantMoved(t, "one acked", acked, 9, 3, "x", with(acked, moveOp(41, 4, 9, 3, "x")))
}

// fault: what is wrong with a call, and the code that tells it.
type fault struct {
	what string
	code int64
}

// firstOf tells, of faults in the document's order, the code of the first that
// is chosen, and what all chosen are.
func firstOf(faults []fault, chosen int) (int64, string) {
	code, what := int64(impl.OK), ""
	for i, f := range faults {
		if chosen&(1<<i) == 0 {
			continue
		}
		what += ", " + f.what
		if code == impl.OK {
			code = f.code
		}
	}
	return code, "faults" + what
}

// clientWith: one that is right but for the faults that are chosen.
func clientWith(wrong, late, outFull, logFull bool) impl.Client {
	out, all := 3, 40
	if outFull {
		out = impl.MaxOut
	}
	if logFull {
		all = impl.MaxOps
	}
	c := fullClient(out, all)
	if wrong {
		c.Got = -1
	}
	if late {
		c.Clock = impl.MaxTime
	}
	return c
}

// All faults of Move together, whichever: the first is told. (That a Clock at
// MaxTime is told ahead of what else is wrong with the Op is a reading: the
// document has the one in brackets behind the other.)
func TestFaultsOfMoveInOrder(t *testing.T) {
	faults := []fault{
		{"a great name", impl.ErrSize}, {"a wrong client", impl.ErrForm}, {"the last Time", impl.ErrFull}, {"a wrong Op", impl.ErrForm},
		{"no parent", impl.ErrNone}, {"below itself", impl.ErrLoop}, {"MaxOut", impl.ErrFull}, {"MaxOps", impl.ErrFull},
	}
	for chosen := 1; chosen < 1<<len(faults); chosen++ {
		code, what := firstOf(faults, chosen)
		is := func(i int) bool { return chosen&(1<<i) != 0 }
		c := clientWith(is(1), is(2), is(6), is(7))
		node, parent, name := int64(9), int64(3), "x"
		if is(3) {
			name = "X"
		}
		if is(0) {
			name = strings.Repeat("x", impl.MaxBytes+1)
		}
		if is(4) {
			parent = 99
		}
		if is(5) {
			node = parent
		}
		wantMoved(t, what, c, node, parent, name, refusedByHand(code))
		if is(5) && !is(4) {
			wantMoved(t, what+", further down", c, 2, 3, name, refusedByHand(code))
		}
	}
}

func TestFaultsOfSetInOrder(t *testing.T) {
	faults := []fault{
		{"a great text", impl.ErrSize}, {"a wrong client", impl.ErrForm}, {"the last Time", impl.ErrFull}, {"a wrong Op", impl.ErrForm},
		{"no node", impl.ErrNone}, {"MaxOut", impl.ErrFull}, {"MaxOps", impl.ErrFull},
	}
	great := strings.Repeat("x", impl.MaxBytes+1)
	for chosen := 1; chosen < 1<<len(faults); chosen++ {
		code, what := firstOf(faults, chosen)
		is := func(i int) bool { return chosen&(1<<i) != 0 }
		c := clientWith(is(1), is(2), is(5), is(6))
		node, key, value := int64(3), "k", "v"
		if is(3) {
			value = strings.Repeat("v", 41)
		}
		if is(4) {
			node = 99
		}
		if !is(0) {
			wantSet(t, what, c, node, key, value, refusedByHand(code))
			continue
		}
		wantSet(t, what+", the key", c, node, great, value, refusedByHand(code))
		wantSet(t, what+", the value", c, node, key, great, refusedByHand(code))
		wantSet(t, what+", both", c, node, great, great, refusedByHand(code))
	}
}
