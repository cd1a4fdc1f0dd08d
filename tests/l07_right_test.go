package tests

import (
	"fmt"
	"math"
	"math/rand"
	"slices"
	"strings"
	"testing"

	"loop.example/g00378/impl"
)

// seenByHand: how many of each replica there are, rising by replica.
func seenByHand(l []impl.Op) []impl.Seen {
	var seen []impl.Seen
	for replica := range int64(51) {
		if many := len(byReplica(l, replica)); many > 0 {
			seen = append(seen, impl.Seen{Replica: replica, Many: int64(many)})
		}
	}
	return seen
}

func serverOf(l []impl.Op) impl.Server {
	return impl.Server{Ops: l, Seen: seenByHand(l)}
}

// mixed: the same deeds, those of each replica in the order in which they
// stood, but the replicas mixed in whatever way.
func mixed(l []impl.Op, seed int64) []impl.Op {
	rest := map[int64][]impl.Op{}
	for _, o := range l {
		rest[o.Replica] = append(rest[o.Replica], o)
	}
	var all []impl.Op
	for _, o := range shuffled(l, seed) {
		all = append(all, rest[o.Replica][0])
		rest[o.Replica] = rest[o.Replica][1:]
	}
	return all
}

// midServer: ten deeds of each of the replicas 1 to 3, mixed.
func midServer() impl.Server {
	return serverOf(mixed(manyOps(30), 7))
}

// serverWith: a server but for what is changed of it.
func serverWith(s impl.Server, change func(s *impl.Server)) impl.Server {
	s.Ops, s.Seen = slices.Clone(s.Ops), slices.Clone(s.Seen)
	change(&s)
	return s
}

func sameServer(a, b impl.Server) bool {
	return slices.Equal(a.Ops, b.Ops) && slices.Equal(a.Seen, b.Seen)
}

// serverRightByHand: by the words of chapter 8.
func serverRightByHand(s impl.Server) bool {
	if !impl.OpsRight(s.Ops) {
		return false
	}
	for i, seen := range s.Seen {
		if i > 0 && s.Seen[i-1].Replica >= seen.Replica {
			return false
		}
		own := byReplica(s.Ops, seen.Replica)
		if len(own) == 0 || int64(len(own)) != seen.Many {
			return false
		}
		for k := 1; k < len(own); k++ {
			if own[k-1].Time >= own[k].Time {
				return false
			}
		}
	}
	for _, o := range s.Ops {
		if !slices.ContainsFunc(s.Seen, func(seen impl.Seen) bool { return seen.Replica == o.Replica }) {
			return false
		}
	}
	return true
}

func wantServer(t *testing.T, what string, s impl.Server, want bool) {
	t.Helper()
	was := serverWith(s, func(*impl.Server) {})
	if got := impl.ServerRight(s); got != want {
		t.Errorf("ServerRight of %s: got %v, want %v", what, got, want)
	}
	if got := serverRightByHand(s); got != want {
		t.Errorf("%s: by hand got %v, want %v", what, got, want)
	}
	if !sameServer(s, was) {
		t.Errorf("ServerRight of %s: the server that is handed in is not as it was", what)
	}
}

// wrongServers: none of them right, each for one reason.
func wrongServers() map[string]impl.Server {
	s := midServer()
	own := byReplica(s.Ops, 2)
	second, third := slices.Index(s.Ops, own[1]), slices.Index(s.Ops, own[2])
	return map[string]impl.Server{
		"a wrong Op":            serverWith(s, func(s *impl.Server) { s.Ops[17].Node = 1 }),
		"the zero Op behind":    serverWith(s, func(s *impl.Server) { s.Ops = append(s.Ops, impl.Op{}) }),
		"an Op of no replica":   serverOf([]impl.Op{moveOp(1, 0, 2, 0, "a")}),
		"an Op of replica 51":   {Ops: []impl.Op{moveOp(1, 51, 2, 0, "a")}, Seen: []impl.Seen{{Replica: 51, Many: 1}}},
		"one Op twice":          serverOf(append(slices.Clone(s.Ops), s.Ops[29])),
		"two of one stamp":      serverOf(append(slices.Clone(own), setOp(own[9].Time, 2, 2, "k", "another"))),
		"more than MaxOps":      serverOf(manyOps(impl.MaxOps + 1)),
		"Ops beyond MaxList":    serverOf(manyOps(impl.MaxList + 1)),
		"a replica's that fall": serverWith(s, func(s *impl.Server) { s.Ops[second], s.Ops[third] = s.Ops[third], s.Ops[second] }),
		"two that fall":         serverOf([]impl.Op{moveOp(2, 1, 2, 0, "a"), moveOp(1, 1, 2, 0, "a")}),
		"Seen falls":            serverWith(s, func(s *impl.Server) { slices.Reverse(s.Seen) }),
		"two of Seen fall":      serverWith(s, func(s *impl.Server) { s.Seen[1], s.Seen[2] = s.Seen[2], s.Seen[1] }),
		"a replica Seen twice":  serverWith(s, func(s *impl.Server) { s.Seen = slices.Insert(s.Seen, 1, s.Seen[1]) }),
		"Seen twice, in parts":  {Ops: own, Seen: []impl.Seen{{Replica: 2, Many: 4}, {Replica: 2, Many: 6}}},
		"the first is not Seen": serverWith(s, func(s *impl.Server) { s.Seen = s.Seen[1:] }),
		"one is not Seen":       serverWith(s, func(s *impl.Server) { s.Seen = slices.Delete(s.Seen, 1, 2) }),
		"the last is not Seen":  serverWith(s, func(s *impl.Server) { s.Seen = s.Seen[:2] }),
		"nothing is Seen":       {Ops: s.Ops},
		"Seen without Ops":      {Seen: s.Seen},
		"Seen of none there":    serverWith(s, func(s *impl.Server) { s.Seen = append(s.Seen, impl.Seen{Replica: 4, Many: 1}) }),
		"Many of none is 0":     serverWith(s, func(s *impl.Server) { s.Seen = append(s.Seen, impl.Seen{Replica: 4}) }),
		"Seen of replica 0":     serverWith(s, func(s *impl.Server) { s.Seen = slices.Insert(s.Seen, 0, impl.Seen{}) }),
		"Seen of none, empty":   {Seen: []impl.Seen{{Replica: 1}}},
		"Seen of another one":   serverWith(s, func(s *impl.Server) { s.Seen[2].Replica = 9 }),
		"Seen beyond MaxList":   serverWith(s, func(s *impl.Server) { s.Seen = append(s.Seen, make([]impl.Seen, impl.MaxList)...) }),
		"one more is Seen":      serverWith(s, func(s *impl.Server) { s.Seen[1].Many++ }),
		"one less is Seen":      serverWith(s, func(s *impl.Server) { s.Seen[1].Many-- }),
		"Many of two turned":    serverWith(serverOf(s.Ops[:20]), func(s *impl.Server) { s.Seen[0].Many++; s.Seen[1].Many-- }),
	}
}

func TestWrongServers(t *testing.T) {
	for what, s := range wrongServers() {
		wantServer(t, what, s, false)
	}
}

func TestRightServers(t *testing.T) {
	wantServer(t, "the zero Server", impl.Server{}, true)
	wantServer(t, "empty lists", impl.Server{Ops: []impl.Op{}, Seen: []impl.Seen{}}, true)
	wantServer(t, "one of three replicas", midServer(), true)
	for _, many := range []int{1, 2, 3, 50, impl.MaxOps - 1, impl.MaxOps} {
		wantServer(t, fmt.Sprint(many, " in the order of stamps"), serverOf(manyOps(many)), true)
		for seed := range int64(5) {
			wantServer(t, fmt.Sprint(many, " mixed"), serverOf(mixed(manyOps(many), seed)), true)
		}
	}
	wantServer(t, "the replica 1", serverOf([]impl.Op{moveOp(1, 1, 2, 0, "a")}), true)
	wantServer(t, "the replica 50", serverOf([]impl.Op{moveOp(impl.MaxTime, 50, 2, 0, "a")}), true)
	var each []impl.Op
	for replica := int64(50); replica >= 1; replica-- {
		each = append(each, moveOp(replica, replica, 2, 0, "a"), setOp(60, replica, 2, "k", "v"))
	}
	wantServer(t, "each replica, the last first", serverOf(each), true)
}

// The stamps of one replica may stand below those of others that came ahead.
func TestReplicasOneBehindTheOther(t *testing.T) {
	log := manyOps(30)
	for _, order := range [][]int64{{1, 2, 3}, {1, 3, 2}, {2, 1, 3}, {2, 3, 1}, {3, 1, 2}, {3, 2, 1}} {
		var l []impl.Op
		for _, replica := range order {
			l = append(l, byReplica(log, replica)...)
		}
		wantServer(t, fmt.Sprint("the replicas ", order), serverOf(l), true)
	}
}

func TestOrderWithinAReplica(t *testing.T) {
	s := midServer()
	for at := range s.Ops {
		for to := range at {
			turned := serverWith(s, func(s *impl.Server) { s.Ops[at], s.Ops[to] = s.Ops[to], s.Ops[at] })
			wantServer(t, fmt.Sprint(at, " and ", to, " turned"), turned, serverRightByHand(turned))
		}
	}
}

func TestManyOfSeen(t *testing.T) {
	s := midServer()
	for at := range s.Seen {
		for _, many := range []int64{math.MinInt64, -10, -1, 0, 1, 9, 10, 11, 30, impl.MaxOps, math.MaxInt64} {
			with := serverWith(s, func(s *impl.Server) { s.Seen[at].Many = many })
			wantServer(t, fmt.Sprint("Many ", many, " of ten"), with, many == 10)
		}
		for _, replica := range []int64{math.MinInt64, -1, 0, 1, 2, 3, 4, 50, 51, math.MaxInt64} {
			with := serverWith(s, func(s *impl.Server) { s.Seen[at].Replica = replica })
			wantServer(t, fmt.Sprint("replica ", replica, " in the place ", at), with, replica == int64(at)+1)
		}
	}
}

// anyServer: one that may be wrong, of few deeds, so that each kind of wrong
// and right ones come often.
func anyServer(r *rand.Rand) impl.Server {
	var l []impl.Op
	for range r.Intn(5) {
		l = append(l, moveOp(int64(1+r.Intn(5)), int64(1+r.Intn(3)), 2, 0, strings.Repeat("a", 1+r.Intn(2))))
	}
	s := serverOf(l)
	if r.Intn(4) == 0 && len(s.Seen) > 0 {
		s.Seen[r.Intn(len(s.Seen))] = impl.Seen{Replica: int64(r.Intn(4)), Many: int64(r.Intn(3))}
	}
	return s
}

func TestManyServers(t *testing.T) {
	r := rand.New(rand.NewSource(1))
	many := map[bool]int{}
	for range 20000 {
		s := anyServer(r)
		want := serverRightByHand(s)
		many[want]++
		wantServer(t, fmt.Sprintf("%+v", s), s, want)
	}
	if many[true] < 2000 || many[false] < 2000 {
		t.Errorf("right and wrong ones are not both many: %v", many)
	}
}
