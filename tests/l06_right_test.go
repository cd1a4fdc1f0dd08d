package tests

import (
	"fmt"
	"math"
	"slices"
	"strings"
	"testing"

	"loop.example/g00378/impl"
)

// byReplica: the deeds of one replica, in order.
func byReplica(log []impl.Op, replica int64) []impl.Op {
	var own []impl.Op
	for _, o := range log {
		if o.Replica == replica {
			own = append(own, o)
		}
	}
	return own
}

// clientOf: a right one of a log, with so many of its own deeds in Out.
func clientOf(replica int64, log []impl.Op, out int) impl.Client {
	own := byReplica(log, replica)
	c := impl.Client{Replica: replica, Log: log, Acked: int64(len(own) - out), Out: slices.Clone(own[len(own)-out:])}
	for _, o := range log {
		c.Clock = max(c.Clock, o.Time)
	}
	return c
}

// midClient: ten deeds of each of the replicas 1 to 3; of its own, the
// second's, six are acked.
func midClient() impl.Client {
	c := clientOf(2, manyOps(30), 4)
	c.Got = 12
	return c
}

// changed: a right client but for what is changed of it.
func changed(c impl.Client, change func(c *impl.Client)) impl.Client {
	c.Log, c.Out = slices.Clone(c.Log), slices.Clone(c.Out)
	change(&c)
	return c
}

// rightByHand: by the words of chapter 7.
func rightByHand(c impl.Client) bool {
	if c.Replica < 1 || c.Replica > 50 || c.Clock < 0 || c.Clock > impl.MaxTime || c.Got < 0 || c.Got > impl.MaxTime {
		return false
	}
	if !impl.OpsRight(c.Log) || len(c.Out) > 30 {
		return false
	}
	for i, o := range c.Log {
		if o.Time > c.Clock {
			return false
		}
		if i > 0 {
			was := c.Log[i-1]
			if was.Time > o.Time || was.Time == o.Time && was.Replica > o.Replica {
				return false
			}
		}
	}
	own := byReplica(c.Log, c.Replica)
	return len(c.Out) <= len(own) && slices.Equal(c.Out, own[len(own)-len(c.Out):]) && c.Acked == int64(len(own)-len(c.Out))
}

func wantClient(t *testing.T, what string, c impl.Client, want bool) {
	t.Helper()
	was := changed(c, func(*impl.Client) {})
	if got := impl.ClientRight(c); got != want {
		t.Errorf("ClientRight of %s: got %v, want %v", what, got, want)
	}
	if got := rightByHand(c); got != want {
		t.Errorf("%s: by hand got %v, want %v", what, got, want)
	}
	if !sameClient(c, was) {
		t.Errorf("ClientRight of %s: the client that is handed in is not as it was", what)
	}
}

func sameClient(a, b impl.Client) bool {
	return a.Replica == b.Replica && a.Clock == b.Clock && a.Acked == b.Acked && a.Got == b.Got &&
		slices.Equal(a.Log, b.Log) && slices.Equal(a.Out, b.Out)
}

func TestNewClients(t *testing.T) {
	for _, c := range []struct {
		replica int64
		want    impl.Client
	}{
		{math.MinInt64, impl.Client{}}, {-1, impl.Client{}}, {0, impl.Client{}},
		{1, impl.Client{Replica: 1}}, {2, impl.Client{Replica: 2}}, {7, impl.Client{Replica: 7}},
		{49, impl.Client{Replica: 49}}, {50, impl.Client{Replica: 50}},
		{51, impl.Client{}}, {impl.MaxTime, impl.Client{}}, {math.MaxInt64, impl.Client{}},
	} {
		got := impl.ClientNew(c.replica)
		if !sameClient(got, c.want) {
			t.Errorf("ClientNew(%d): got %+v, want %+v", c.replica, got, c.want)
		}
		wantClient(t, fmt.Sprint("a new one of ", c.replica), got, c.want.Replica > 0)
	}
}

func TestRightClients(t *testing.T) {
	c := midClient()
	wantClient(t, "one with all", c, true)
	for _, clock := range []int64{10, 11, impl.MaxTime - 1, impl.MaxTime} {
		wantClient(t, fmt.Sprint("the Clock ", clock), changed(c, func(c *impl.Client) { c.Clock = clock }), true)
	}
	for _, got := range []int64{0, 1, impl.MaxTime - 1, impl.MaxTime} {
		wantClient(t, fmt.Sprint("Got ", got), changed(c, func(c *impl.Client) { c.Got = got }), true)
	}
	for out := range 11 {
		wantClient(t, fmt.Sprint(out, " of ten in Out"), clientOf(2, manyOps(30), out), true)
	}
	for _, out := range []int{0, 1, impl.MaxOut - 1, impl.MaxOut} {
		wantClient(t, fmt.Sprint(out, " of fifty in Out"), clientOf(3, manyOps(impl.MaxOps), out), true)
	}
	wantClient(t, "all of thirty in Out", clientOf(1, manyOps(90), impl.MaxOut), true)
	wantClient(t, "none of its own", clientOf(50, manyOps(impl.MaxOps), 0), true)
	wantClient(t, "an empty Log, with a Clock", impl.Client{Replica: 50, Clock: impl.MaxTime, Got: impl.MaxTime}, true)
	wantClient(t, "empty lists", impl.Client{Replica: 1, Log: []impl.Op{}, Out: []impl.Op{}}, true)
}

func TestWrongNumbersOfClients(t *testing.T) {
	for what, change := range map[string]func(c *impl.Client, n int64){
		"Replica": func(c *impl.Client, n int64) { c.Replica = n },
		"Clock":   func(c *impl.Client, n int64) { c.Clock = n },
		"Acked":   func(c *impl.Client, n int64) { c.Acked = n },
		"Got":     func(c *impl.Client, n int64) { c.Got = n },
	} {
		for _, n := range []int64{math.MinInt64, -1, impl.MaxTime + 1, math.MaxInt64} {
			for _, c := range []impl.Client{midClient(), impl.ClientNew(7)} {
				wantClient(t, fmt.Sprint(what, " ", n), changed(c, func(c *impl.Client) { change(c, n) }), false)
			}
		}
	}
	wrong := func(what string, change func(c *impl.Client)) {
		t.Helper()
		wantClient(t, what, changed(midClient(), change), false)
	}
	for _, replica := range []int64{0, 51} {
		wantClient(t, fmt.Sprint("the Replica ", replica, ", none of its own"), impl.Client{Replica: replica}, false)
		wrong(fmt.Sprint("the Replica ", replica), func(c *impl.Client) { c.Replica = replica })
	}
	for _, replica := range []int64{1, 3, 4, 50} {
		wrong(fmt.Sprint("another's Out, the Replica ", replica), func(c *impl.Client) { c.Replica = replica })
	}
	for clock := range int64(10) {
		wrong(fmt.Sprint("a Time in the Log above the Clock ", clock), func(c *impl.Client) { c.Clock = clock })
	}
	for _, acked := range []int64{0, 5, 7, 10, 30} {
		wrong(fmt.Sprint("six are acked, Acked ", acked), func(c *impl.Client) { c.Acked = acked })
	}
	wantClient(t, "Acked of none", impl.Client{Replica: 1, Acked: 1}, false)
	wantClient(t, "the zero Client", impl.Client{}, false)
}

func TestClientsWithoutALog(t *testing.T) {
	others := func(log []impl.Op) impl.Client { return clientOf(50, log, 0) }
	twice := manyOps(10)
	twice[5] = twice[4]
	stamp := manyOps(10)
	stamp[5].Time, stamp[5].Replica = stamp[4].Time, stamp[4].Replica
	falling := manyOps(10)
	slices.Reverse(falling)
	great := manyOps(10)
	great[3].Value = strings.Repeat("v", impl.MaxBytes+1)
	for what, log := range map[string][]impl.Op{
		"a wrong deed":             append(manyOps(9), impl.Op{}),
		"a wrong deed first":       append([]impl.Op{{}}, manyOps(9)...),
		"one deed twice":           twice,
		"two of one stamp":         stamp,
		"stamps that fall":         falling,
		"the last two turned":      append(manyOps(8), manyOps(10)[9], manyOps(10)[8]),
		"a Value that is too long": great,
		"one more than MaxOps":     manyOps(impl.MaxOps + 1),
		"one more than MaxList":    manyOps(impl.MaxList + 1),
	} {
		wantClient(t, what, others(log), false)
	}
	wantClient(t, "MaxOps", others(manyOps(impl.MaxOps)), true)
}

func TestWrongOut(t *testing.T) {
	own := byReplica(midClient().Log, 2)
	another := own[9]
	another.Name = "another"
	turned := slices.Clone(own[6:])
	turned[1], turned[2] = turned[2], turned[1]
	for what, out := range map[string][]impl.Op{
		"the first ones":               own[:4],
		"all but the last one":         own[5:9],
		"one left out between":         {own[6], own[7], own[9]},
		"one left out between, four":   {own[5], own[6], own[7], own[9]},
		"another order":                turned,
		"one twice":                    {own[7], own[8], own[9], own[9]},
		"another deed of a stamp":      {own[6], own[7], own[8], another},
		"one of another replica":       {own[6], own[7], own[8], midClient().Log[29]},
		"one that is not in the Log":   append(slices.Clone(own[7:]), moveOp(11, 2, 2, 0, "a")),
		"more than its own":            append([]impl.Op{moveOp(1, 1, 2, 0, "n")}, own...),
		"the zero Op":                  {{}},
		"many more than there are Ops": manyOps(5000),
	} {
		wantClient(t, what, changed(midClient(), func(c *impl.Client) { c.Out = out }), false)
		wantClient(t, what+", Acked the rest", changed(midClient(), func(c *impl.Client) { c.Out, c.Acked = out, int64(10-len(out)) }), false)
	}
	wantClient(t, "none in Out, six acked", changed(midClient(), func(c *impl.Client) { c.Out = nil }), false)
	wantClient(t, "Out without a Log", impl.Client{Replica: 2, Clock: 10, Out: own[6:]}, false)
	wantClient(t, "one more than MaxOut", clientOf(3, manyOps(impl.MaxOps), impl.MaxOut+1), false)
	wantClient(t, "one more than MaxOut, all of them", clientOf(1, manyOps(93), impl.MaxOut+1), false)
}
