package tests

import (
	"fmt"
	"slices"
	"testing"

	"loop.example/g00378/impl"
)

// The calls by hand, by the words of chapter 8.

func deniedByHand(code int64) impl.ServerOut {
	return impl.ServerOut{Code: code}
}

// sentByHand: do they come from one replica, of rising stamps?
func sentByHand(replica int64, l []impl.Op) bool {
	for i, o := range l {
		if o.Replica != replica || i > 0 && l[i-1].Time >= o.Time {
			return false
		}
	}
	return replica >= 1 && replica <= 50 && impl.OpsRight(l)
}

func uploadByHand(s impl.Server, replica, from int64, l []impl.Op) impl.ServerOut {
	switch {
	case len(l) > impl.MaxList:
		return deniedByHand(impl.ErrSize)
	case !serverRightByHand(s) || !sentByHand(replica, l) || from < 0:
		return deniedByHand(impl.ErrForm)
	}
	own := byReplica(s.Ops, replica)
	many := int64(len(own))
	if from > many {
		return impl.ServerOut{Many: many, Code: impl.ErrRange}
	}
	all := slices.Clone(s.Ops)
	for i, o := range l {
		if from+int64(i) < many {
			continue
		}
		if len(own) > 0 && own[len(own)-1].Time >= o.Time {
			return deniedByHand(impl.ErrThere)
		}
		all, own = append(all, o), append(own, o)
	}
	if len(all) > 150 {
		return deniedByHand(impl.ErrFull)
	}
	return impl.ServerOut{Server: serverOf(all), Many: int64(len(own))}
}

func downloadByHand(s impl.Server, from, most int64) impl.ServerOut {
	if !serverRightByHand(s) || most < 0 || most > 50 {
		return deniedByHand(impl.ErrForm)
	}
	for place := range len(s.Ops) + 1 {
		if int64(place) == from {
			return impl.ServerOut{Ops: slices.Clone(s.Ops[place:][:min(int(most), len(s.Ops)-place)])}
		}
	}
	return deniedByHand(impl.ErrForm)
}

// What holds of each call, whatever it is given.

// roomySeen: the same, with room behind it that is its owner's, too.
func roomySeen(l []impl.Seen) []impl.Seen {
	room := slices.Grow(slices.Clone(l), 3)
	for i := len(l); i < cap(room); i++ {
		room[:cap(room)][i] = impl.Seen{Replica: 49, Many: 999}
	}
	return room
}

// handed: what a call is given, with the room behind each list.
type handed struct {
	ops  [][]impl.Op
	seen []impl.Seen
}

func handedOf(s impl.Server, l []impl.Op) handed {
	return handed{ops: wholes(s.Ops, l), seen: slices.Clone(s.Seen[:cap(s.Seen)])}
}

func (h handed) same(other handed) bool {
	return sameLists(h.ops, other.ops) && slices.Equal(h.seen, other.seen)
}

// wantAnswer holds a call against what it must tell, and what every call keeps:
// the lists that are handed in are as they were, also when those that are told
// are written to.
func wantAnswer(t *testing.T, what string, s impl.Server, l []impl.Op, call func(s impl.Server, l []impl.Op) impl.ServerOut, want impl.ServerOut) impl.ServerOut {
	t.Helper()
	s.Ops, s.Seen, l = roomy(s.Ops), roomySeen(s.Seen), roomy(l)
	was := handedOf(s, l)
	got := call(s, l)
	if !sameServer(got.Server, want.Server) || !slices.Equal(got.Ops, want.Ops) || got.Many != want.Many || got.Code != want.Code {
		t.Errorf("%s: got %v, want %v", what, got, want)
	}
	if !was.same(handedOf(s, l)) {
		t.Errorf("%s: what is handed in is not as it was", what)
	}
	told := got
	told.Server, told.Ops = serverWith(got.Server, func(*impl.Server) {}), slices.Clone(got.Ops)
	clear(got.Server.Ops[:cap(got.Server.Ops)])
	clear(got.Server.Seen[:cap(got.Server.Seen)])
	if !slices.Equal(got.Ops, told.Ops) {
		t.Errorf("%s: the Ops and the Server's share memory", what)
	}
	clear(got.Ops[:cap(got.Ops)])
	if !was.same(handedOf(s, l)) {
		t.Errorf("%s: who writes to what is told writes to what was handed in", what)
	}
	return told
}

// wantUploaded: also promise 8, and that the server stays right and loses
// nothing.
func wantUploaded(t *testing.T, what string, s impl.Server, replica, from int64, l []impl.Op, want impl.ServerOut) impl.ServerOut {
	t.Helper()
	what = fmt.Sprintf("Upload, %s: %d from %d of the replica %d", what, len(l), from, replica)
	call := func(s impl.Server, l []impl.Op) impl.ServerOut { return impl.Upload(s, replica, from, l) }
	got := wantAnswer(t, what, s, l, call, want)
	if got.Code != impl.OK {
		return got
	}
	if !impl.ServerRight(got.Server) || !serverRightByHand(got.Server) {
		t.Errorf("%s: the server is not right any more: %v", what, got.Server)
	}
	if many := len(s.Ops); len(got.Server.Ops) < many || !slices.Equal(got.Server.Ops[:many], s.Ops) {
		t.Errorf("%s: what was there is not there in order: %v", what, got.Server)
	}
	wantAnswer(t, what+", once more", got.Server, l, call, impl.ServerOut{Server: got.Server, Many: got.Many})
	return got
}

func wantDownloaded(t *testing.T, what string, s impl.Server, from, most int64, want impl.ServerOut) impl.ServerOut {
	t.Helper()
	return wantAnswer(t, fmt.Sprintf("Download, %s: %d from %d", what, most, from), s, nil, func(s impl.Server, _ []impl.Op) impl.ServerOut {
		return impl.Download(s, from, most)
	}, want)
}
