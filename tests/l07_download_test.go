package tests

import (
	"fmt"
	"math"
	"slices"
	"testing"

	"loop.example/g00378/impl"
)

func TestDownloadOfAnyPiece(t *testing.T) {
	for _, many := range []int{0, 1, 2, 30, 49, 50, 51, 52, impl.MaxOps} {
		s := serverOf(mixed(manyOps(many), 8))
		for from := range many + 1 {
			for _, most := range []int{0, 1, 2, 4, 29, 30, 31, 49, 50} {
				want := impl.ServerOut{Ops: s.Ops[from:min(from+most, many)]}
				wantDownloaded(t, fmt.Sprint("of ", many), s, int64(from), int64(most), want)
			}
		}
	}
}

func TestPlacesOfDownload(t *testing.T) {
	s := midServer()
	wantDownloaded(t, "the last one", s, 29, 50, impl.ServerOut{Ops: s.Ops[29:]})
	wantDownloaded(t, "none is left", s, 30, 50, impl.ServerOut{})
	wantDownloaded(t, "none is asked for", s, 0, 0, impl.ServerOut{})
	wantDownloaded(t, "an empty server", impl.Server{}, 0, 50, impl.ServerOut{})
	for _, most := range []int64{0, 1, 50} {
		for _, from := range []int64{math.MinInt64, -50, -1, 31, 32, impl.MaxOps, impl.MaxTime, math.MaxInt64} {
			wantDownloaded(t, "no such place", s, from, most, deniedByHand(impl.ErrForm))
		}
		for _, from := range []int64{-1, 1, 2, math.MaxInt64} {
			wantDownloaded(t, "no such place, an empty server", impl.Server{}, from, most, deniedByHand(impl.ErrForm))
		}
	}
	for _, most := range []int64{math.MinInt64, -50, -1, 51, 52, impl.MaxOps, impl.MaxList, math.MaxInt64} {
		for _, from := range []int64{-1, 0, 10, 30, 31, math.MaxInt64} {
			wantDownloaded(t, "no such most", s, from, most, deniedByHand(impl.ErrForm))
		}
		wantDownloaded(t, "no such most, an empty server", impl.Server{}, 0, most, deniedByHand(impl.ErrForm))
	}
}

func TestDownloadOfWrongServers(t *testing.T) {
	for what, s := range wrongServers() {
		for _, from := range []int64{-1, 0, 1, 30, int64(len(s.Ops)), math.MaxInt64} {
			for _, most := range []int64{-1, 0, 5, 50, 51} {
				wantDownloaded(t, what, s, from, most, deniedByHand(impl.ErrForm))
			}
		}
	}
}

// Of some, and from behind these of as many as are left: as all at once.
func TestDownloadInTwoParts(t *testing.T) {
	for _, many := range []int{0, 1, 7, 40, 60, impl.MaxOps} {
		s := serverOf(mixed(manyOps(many), 9))
		for _, from := range []int{0, 1, many / 2, many - 3, many} {
			if from < 0 || from > many {
				continue
			}
			for _, most := range []int{0, 1, 7, 40, 50} {
				all := wantDownloaded(t, "at once", s, int64(from), int64(most), downloadByHand(s, int64(from), int64(most)))
				for some := range most + 1 {
					wantInTwoParts(t, s, from, some, most-some, all.Ops)
				}
			}
		}
	}
}

func wantInTwoParts(t *testing.T, s impl.Server, from, some, left int, all []impl.Op) {
	t.Helper()
	first := impl.Download(s, int64(from), int64(some))
	behind := impl.Download(s, int64(from+len(first.Ops)), int64(left))
	if first.Code != impl.OK || behind.Code != impl.OK {
		t.Fatalf("%d and %d from %d: codes %d and %d", some, left, from, first.Code, behind.Code)
	}
	if !slices.Equal(slices.Concat(first.Ops, behind.Ops), all) {
		t.Fatalf("%d and %d from %d of %d: %d and %d, not the %d at once", some, left, from, len(s.Ops), len(first.Ops), len(behind.Ops), len(all))
	}
}

// Piece by piece all are sent down, each once.
func TestDownloadPieceByPiece(t *testing.T) {
	s := serverOf(mixed(manyOps(impl.MaxOps), 10))
	for most := int64(1); most <= 50; most++ {
		var all []impl.Op
		for len(all) < impl.MaxOps {
			got := impl.Download(s, int64(len(all)), most)
			if got.Code != impl.OK || len(got.Ops) == 0 {
				t.Fatalf("%d from %d: code %d, %d Ops", most, len(all), got.Code, len(got.Ops))
			}
			all = append(all, got.Ops...)
		}
		if !slices.Equal(all, s.Ops) {
			t.Fatalf("by %d they are not all in order", most)
		}
	}
}
