package tests

import (
	"fmt"
	"slices"
	"testing"

	"loop.example/g00378/impl"
)

// The four calls by hand, by the words of chapter 7.

func refusedByHand(code int64) impl.ClientOut {
	return impl.ClientOut{Code: code}
}

func actByHand(c impl.Client, o impl.Op) impl.ClientOut {
	if len(o.Name) > impl.MaxBytes || len(o.Value) > impl.MaxBytes {
		return refusedByHand(impl.ErrSize)
	}
	if !rightByHand(c) {
		return refusedByHand(impl.ErrForm)
	}
	o.Time, o.Replica = c.Clock+1, c.Replica
	if !impl.OpRight(o) {
		if c.Clock == impl.MaxTime {
			return refusedByHand(impl.ErrFull)
		}
		return refusedByHand(impl.ErrForm)
	}
	var tree impl.Tree
	for _, done := range c.Log {
		tree = doneByHand(tree, done)
	}
	if o.Kind == impl.OpSet && nodeIn(tree, o.Node) == nil {
		return refusedByHand(impl.ErrNone)
	}
	if o.Kind == impl.OpMove {
		if o.Parent > 1 && nodeIn(tree, o.Parent) == nil {
			return refusedByHand(impl.ErrNone)
		}
		for at := o.Parent; at > 1; at = nodeIn(tree, at).Parent {
			if at == o.Node {
				return refusedByHand(impl.ErrLoop)
			}
		}
	}
	if len(c.Out) == 30 || len(c.Log) == 150 {
		return refusedByHand(impl.ErrFull)
	}
	return impl.ClientOut{Op: o, Client: changed(c, func(c *impl.Client) {
		c.Clock, c.Log, c.Out = o.Time, append(c.Log, o), append(c.Out, o)
	})}
}

func takeByHand(c impl.Client, from int64, l []impl.Op) impl.ClientOut {
	switch {
	case len(l) > impl.MaxList:
		return refusedByHand(impl.ErrSize)
	case !rightByHand(c) || !impl.OpsRight(l) || from < 0:
		return refusedByHand(impl.ErrForm)
	case from > c.Got || from > impl.MaxTime-int64(len(l)):
		return refusedByHand(impl.ErrRange)
	}
	var more []impl.Op
	for i, o := range l {
		if from+int64(i) >= c.Got {
			more = append(more, o)
		}
	}
	for _, o := range more {
		if o.Replica == c.Replica && !slices.Contains(c.Log, o) {
			return refusedByHand(impl.ErrNone)
		}
	}
	added := impl.LogAdd(c.Log, more)
	if added.Code != impl.OK {
		return refusedByHand(added.Code)
	}
	return impl.ClientOut{Many: added.Many, Client: changed(c, func(c *impl.Client) {
		c.Log, c.Got = added.Ops, c.Got+int64(len(more))
		for _, o := range more {
			c.Clock = max(c.Clock, o.Time)
		}
	})}
}

func ackByHand(c impl.Client, many int64) impl.ClientOut {
	if !rightByHand(c) {
		return refusedByHand(impl.ErrForm)
	}
	for left := range len(c.Out) + 1 {
		if c.Acked+int64(left) == many {
			return impl.ClientOut{Client: changed(c, func(c *impl.Client) { c.Acked, c.Out = many, c.Out[left:] })}
		}
	}
	return refusedByHand(impl.ErrRange)
}

// What holds of each call, whatever it is given.

// roomy: the same deeds, with room behind them that is their owner's, too.
func roomy(l []impl.Op) []impl.Op {
	room := slices.Grow(slices.Clone(l), 3)
	for i := len(l); i < cap(room); i++ {
		room[:cap(room)][i] = moveOp(999, 49, 999, 0, "room")
	}
	return room
}

// wholes: lists with the room behind them.
func wholes(lists ...[]impl.Op) [][]impl.Op {
	var all [][]impl.Op
	for _, l := range lists {
		all = append(all, slices.Clone(l[:cap(l)]))
	}
	return all
}

func sameLists(a, b [][]impl.Op) bool {
	return slices.EqualFunc(a, b, slices.Equal[[]impl.Op])
}

// wantStillRight is promise 7, but for where the tree has what was moved.
func wantStillRight(t *testing.T, what string, was, now impl.Client) {
	t.Helper()
	if !impl.ClientRight(now) || !rightByHand(now) {
		t.Errorf("%s: the client is not right any more: %v", what, now)
	}
	for _, o := range was.Log {
		if !slices.Contains(now.Log, o) {
			t.Errorf("%s: the deed %+v is lost", what, o)
		}
	}
	if now.Clock < was.Clock || now.Replica != was.Replica {
		t.Errorf("%s: of the replica %d at %d there is %d at %d", what, was.Replica, was.Clock, now.Replica, now.Clock)
	}
}

// wantTold holds a call against what it must tell, and what every call keeps:
// the lists that are handed in are as they were, also when those that are told
// are written to, and these are apart.
func wantTold(t *testing.T, what string, c impl.Client, l []impl.Op, call func(c impl.Client, l []impl.Op) impl.ClientOut, want impl.ClientOut) impl.ClientOut {
	t.Helper()
	c.Log, c.Out, l = roomy(c.Log), roomy(c.Out), roomy(l)
	handedIn := wholes(c.Log, c.Out, l)
	got := call(c, l)
	if !sameClient(got.Client, want.Client) || got.Op != want.Op || got.Many != want.Many || got.Code != want.Code {
		t.Errorf("%s: got %v, want %v", what, got, want)
	}
	if got.Code == impl.OK {
		wantStillRight(t, what, c, got.Client)
	}
	if !sameLists(wholes(c.Log, c.Out, l), handedIn) {
		t.Errorf("%s: what is handed in is not as it was", what)
	}
	told := got
	told.Client = changed(got.Client, func(*impl.Client) {})
	log, out := got.Client.Log, got.Client.Out
	clear(log[:cap(log)])
	if !slices.Equal(out, told.Client.Out) {
		t.Errorf("%s: Log and Out share memory", what)
	}
	clear(out[:cap(out)])
	if !sameLists(wholes(c.Log, c.Out, l), handedIn) {
		t.Errorf("%s: who writes to what is told writes to what was handed in", what)
	}
	return told
}

func wantMoved(t *testing.T, what string, c impl.Client, node, parent int64, name string, want impl.ClientOut) impl.ClientOut {
	t.Helper()
	got := wantTold(t, fmt.Sprintf("Move, %s: %d below %d, %.30q", what, node, parent, name), c, nil, func(c impl.Client, _ []impl.Op) impl.ClientOut {
		return impl.Move(c, node, parent, name)
	}, want)
	if got.Code == impl.OK {
		n := nodeIn(impl.TreeOf(got.Client.Log), node)
		if n == nil || n.Parent != parent || n.Name != name {
			t.Errorf("Move, %s: the node %d is not %q below %d: %v", what, node, name, parent, n)
		}
	}
	return got
}

func wantSet(t *testing.T, what string, c impl.Client, node int64, key, value string, want impl.ClientOut) impl.ClientOut {
	t.Helper()
	return wantTold(t, fmt.Sprintf("Set, %s: of %d %.30q to %.30q", what, node, key, value), c, nil, func(c impl.Client, _ []impl.Op) impl.ClientOut {
		return impl.Set(c, node, key, value)
	}, want)
}

func wantTaken(t *testing.T, what string, c impl.Client, from int64, l []impl.Op, want impl.ClientOut) impl.ClientOut {
	t.Helper()
	return wantTold(t, fmt.Sprintf("Take, %s: %d from %d", what, len(l), from), c, l, func(c impl.Client, l []impl.Op) impl.ClientOut {
		return impl.Take(c, from, l)
	}, want)
}

func wantAcked(t *testing.T, what string, c impl.Client, many int64, want impl.ClientOut) impl.ClientOut {
	t.Helper()
	return wantTold(t, fmt.Sprintf("Ack, %s: %d", what, many), c, nil, func(c impl.Client, _ []impl.Op) impl.ClientOut {
		return impl.Ack(c, many)
	}, want)
}

// wrongClients: none of them right, each for one reason.
func wrongClients() map[string]impl.Client {
	c := midClient()
	return map[string]impl.Client{
		"the zero Client":          {},
		"no Replica":               changed(c, func(c *impl.Client) { c.Replica = 0 }),
		"a great Replica":          {Replica: 51},
		"a Clock below 0":          {Replica: 1, Clock: -1},
		"a Clock above MaxTime":    changed(c, func(c *impl.Client) { c.Clock = impl.MaxTime + 1 }),
		"a Clock below a Time":     changed(c, func(c *impl.Client) { c.Clock = 9 }),
		"no log":                   changed(c, func(c *impl.Client) { slices.Reverse(c.Log) }),
		"more than MaxOps":         clientOf(2, manyOps(impl.MaxOps+1), 4),
		"a Log beyond MaxList":     clientOf(50, manyOps(impl.MaxList+1), 0),
		"Out in another order":     changed(c, func(c *impl.Client) { slices.Reverse(c.Out) }),
		"Out that lacks the last":  changed(c, func(c *impl.Client) { c.Out = c.Out[:3] }),
		"more than MaxOut":         clientOf(2, manyOps(impl.MaxOps), impl.MaxOut+1),
		"Out beyond MaxList":       changed(c, func(c *impl.Client) { c.Out = manyOps(impl.MaxList + 1) }),
		"one more is Acked":        changed(c, func(c *impl.Client) { c.Acked++ }),
		"one less is Acked":        changed(c, func(c *impl.Client) { c.Acked-- }),
		"Got below 0":              changed(c, func(c *impl.Client) { c.Got = -1 }),
		"Got above MaxTime":        changed(c, func(c *impl.Client) { c.Got = impl.MaxTime + 1 }),
		"no Replica, last Time":    changed(c, func(c *impl.Client) { c.Replica, c.Clock = 0, impl.MaxTime }),
		"Acked wrong at last Time": changed(c, func(c *impl.Client) { c.Acked, c.Clock = 9, impl.MaxTime }),
	}
}

func TestTheClientsOfTheseTests(t *testing.T) {
	wantClient(t, "midClient", midClient(), true)
	for what, c := range wrongClients() {
		wantClient(t, what, c, false)
	}
}
