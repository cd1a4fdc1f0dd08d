package tests

import (
	"fmt"
	"math"
	"testing"

	"loop.example/g00378/impl"
)

func TestAcksThatAreDone(t *testing.T) {
	c := midClient() // of ten of its own six are acked
	own := byReplica(c.Log, 2)
	for many := int64(6); many <= 10; many++ {
		want := c
		want.Acked, want.Out = many, own[many:]
		wantAcked(t, "six are acked", c, many, impl.ClientOut{Client: want})
	}
	fresh := impl.ClientNew(7)
	wantAcked(t, "none of none", fresh, 0, impl.ClientOut{Client: fresh})
	all := clientOf(2, manyOps(30), 0)
	wantAcked(t, "all are acked", all, 10, impl.ClientOut{Client: all})
}

func TestAcksOutOfRange(t *testing.T) {
	for _, c := range []struct {
		client impl.Client
		many   []int64
	}{
		{midClient(), []int64{0, 1, 5, 11, 12, 30}},
		{impl.ClientNew(7), []int64{1, 2}},
		{clientOf(2, manyOps(30), 0), []int64{0, 9, 11}},
		{clientOf(2, manyOps(30), 10), []int64{11, 30}},
		{clientOf(2, manyOps(impl.MaxOps), impl.MaxOut), []int64{0, 19, 51, 150}},
	} {
		for _, many := range append(c.many, math.MinInt64, -1, impl.MaxTime, math.MaxInt64) {
			what := fmt.Sprint(c.client.Acked, " acked, ", len(c.client.Out), " in Out")
			wantAcked(t, what, c.client, many, refusedByHand(impl.ErrRange))
		}
	}
}

func TestAcksOneByOne(t *testing.T) {
	c := clientOf(2, manyOps(impl.MaxOps), impl.MaxOut)
	for many := int64(20); many <= 50; many++ {
		told := wantAcked(t, "one by one", c, many, ackByHand(c, many))
		if len(told.Client.Out) != int(50-many) || told.Client.Acked != many {
			t.Fatalf("%d are acked: %d, and %d in Out", many, told.Client.Acked, len(told.Client.Out))
		}
		wantAcked(t, "once more", told.Client, many, impl.ClientOut{Client: told.Client})
		wantAcked(t, "one less", told.Client, many-1, refusedByHand(impl.ErrRange))
		c = told.Client
	}
}

func TestAcksOfWrongClients(t *testing.T) {
	for what, c := range wrongClients() {
		for _, many := range []int64{math.MinInt64, -1, 0, c.Acked, c.Acked + 1, math.MaxInt64} {
			wantAcked(t, what, c, many, refusedByHand(impl.ErrForm))
		}
	}
}
