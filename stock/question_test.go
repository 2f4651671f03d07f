package stock_test

import (
	"math"
	"slices"
	"testing"

	"oast/api"
	"oast/stock"
)

// P1.4: each successful change makes one version; a refused one none.
func TestVersion(t *testing.T) {
	s := stock.New()
	wantVersion(t, s, 0)
	steps := []func() api.Errno{
		func() api.Errno { return s.Enter(span(1, 10), 7, 1) },
		func() api.Errno { return s.Move(span(1, 2), 1, 2) },
		func() api.Errno { return s.Pledge(span(3, 4), 1, 9) },
		func() api.Errno { return s.Release(span(3, 3), 9) },
		func() api.Errno { return s.Seize(span(4, 4), 9) },
		func() api.Errno { return s.Leave(span(4, 4), 9) },
	}
	for i, step := range steps {
		wantOK(t, step())
		wantVersion(t, s, i+1)
		wantError(t, "a refused change", s.Enter(span(1, 1), 7, 1), api.ErrState)
		wantVersion(t, s, i+1)
	}
}

// P1.4: the first example of the chapter.
func TestQuestionsAtVersions(t *testing.T) {
	s := stock.New()
	wantOK(t, s.Enter(span(1, 10), 7, 1), s.Move(span(3, 5), 1, 2), s.Pledge(span(8, 8), 1, 9))
	wantHolds(t, s, 1, 0)
	wantHolds(t, s, 1, 1, stock.Hold{Span: span(1, 10), Lot: 7, Owner: 1})
	wantHolds(t, s, 1, 2, stock.Hold{Span: span(1, 2), Lot: 7, Owner: 1}, stock.Hold{Span: span(6, 10), Lot: 7, Owner: 1})
	wantHolds(t, s, 1, 3,
		stock.Hold{Span: span(1, 2), Lot: 7, Owner: 1},
		stock.Hold{Span: span(6, 7), Lot: 7, Owner: 1},
		stock.Hold{Span: span(8, 8), Lot: 7, Owner: 1, Holder: 9},
		stock.Hold{Span: span(9, 10), Lot: 7, Owner: 1})
	wantHolds(t, s, 2, 1)
	wantHolds(t, s, 2, 3, stock.Hold{Span: span(3, 5), Lot: 7, Owner: 2})
	wantHolds(t, s, 9, 3)
	wantPledged(t, s, 9, 2)
	wantPledged(t, s, 9, 3, stock.Hold{Span: span(8, 8), Lot: 7, Owner: 1, Holder: 9})
	wantPledged(t, s, 1, 3)
	for version, want := range []int{0, 10, 7, 7} {
		wantCount(t, s, 1, version, want)
	}
	wantCount(t, s, 2, 3, 3)
	wantCount(t, s, 9, 3, 0)
	wantPocket(t, s, 8, 0, stock.Pocket{})
	wantPocket(t, s, 8, 2, stock.Pocket{State: stock.In, Lot: 7, Owner: 1})
	wantPocket(t, s, 8, 3, stock.Pocket{State: stock.In, Lot: 7, Owner: 1, Holder: 9})
}

// P1.4: a hold is as long as it can be, whatever calls made it, and no longer.
func TestHoldsAreAsLongAsTheyCanBe(t *testing.T) {
	s := stock.New()
	wantOK(t, s.Enter(span(2, 3), 5, 1), s.Enter(span(4, 4), 5, 1), s.Enter(span(1, 1), 5, 1), s.Enter(span(5, 6), 6, 1), s.Enter(span(8, 9), 6, 1))
	wantHolds(t, s, 1, 5, stock.Hold{Span: span(1, 4), Lot: 5, Owner: 1}, stock.Hold{Span: span(5, 6), Lot: 6, Owner: 1}, stock.Hold{Span: span(8, 9), Lot: 6, Owner: 1})
	wantOK(t, s.Enter(span(7, 7), 6, 2), s.Move(span(7, 7), 2, 1))
	wantHolds(t, s, 1, 6, stock.Hold{Span: span(1, 4), Lot: 5, Owner: 1}, stock.Hold{Span: span(5, 6), Lot: 6, Owner: 1}, stock.Hold{Span: span(8, 9), Lot: 6, Owner: 1})
	wantHolds(t, s, 1, 7, stock.Hold{Span: span(1, 4), Lot: 5, Owner: 1}, stock.Hold{Span: span(5, 9), Lot: 6, Owner: 1})
	wantOK(t, s.Move(span(3, 5), 1, 2))
	wantHolds(t, s, 2, 8, stock.Hold{Span: span(3, 4), Lot: 5, Owner: 2}, stock.Hold{Span: span(5, 5), Lot: 6, Owner: 2})
}

// P1.4: pledges to two holders next to each other, and to one holder by two owners.
func TestPledgedAsLongAsTheyCanBe(t *testing.T) {
	s := stock.New()
	wantOK(t, s.Enter(span(1, 8), 5, 1), s.Move(span(5, 8), 1, 2))
	wantOK(t, s.Pledge(span(2, 2), 1, 3), s.Pledge(span(3, 3), 1, 3), s.Pledge(span(4, 4), 1, 4), s.Pledge(span(5, 6), 2, 4), s.Pledge(span(8, 8), 2, 4))
	wantPledged(t, s, 3, 7, stock.Hold{Span: span(2, 3), Lot: 5, Owner: 1, Holder: 3})
	wantPledged(t, s, 4, 7,
		stock.Hold{Span: span(4, 4), Lot: 5, Owner: 1, Holder: 4},
		stock.Hold{Span: span(5, 6), Lot: 5, Owner: 2, Holder: 4},
		stock.Hold{Span: span(8, 8), Lot: 5, Owner: 2, Holder: 4})
	wantHolds(t, s, 1, 7,
		stock.Hold{Span: span(1, 1), Lot: 5, Owner: 1},
		stock.Hold{Span: span(2, 3), Lot: 5, Owner: 1, Holder: 3},
		stock.Hold{Span: span(4, 4), Lot: 5, Owner: 1, Holder: 4})
	wantCount(t, s, 1, 7, 4)
	wantCount(t, s, 2, 7, 4)
}

// P1.4: no such version comes before what is out of its range; with either, there is nothing else.
func TestQuestionsRefused(t *testing.T) {
	s, v := scene(t)
	ask := func(n, version int, want api.Errno) {
		t.Helper()
		if p, e := s.Pocket(n, version); e != want || p != (stock.Pocket{}) {
			t.Errorf("Pocket(%d, %d) is %v, error %d, want error %d alone", n, version, p, e, want)
		}
		if l, e := s.Holds(n, version); e != want || len(l) != 0 {
			t.Errorf("Holds(%d, %d) is %v, error %d, want error %d alone", n, version, l, e, want)
		}
		if l, e := s.Pledged(n, version); e != want || len(l) != 0 {
			t.Errorf("Pledged(%d, %d) is %v, error %d, want error %d alone", n, version, l, e, want)
		}
		if x, e := s.Count(n, version); e != want || x != 0 {
			t.Errorf("Count(%d, %d) is %d, error %d, want error %d alone", n, version, x, e, want)
		}
	}
	for _, version := range []int{-1, v + 1, math.MaxInt, math.MinInt} {
		for _, n := range append([]int{1, 9, api.MaxMember}, badPockets...) {
			ask(n, version, api.ErrNone)
		}
	}
	for version := range v + 1 {
		for _, n := range badPockets {
			ask(n, version, api.ErrArg)
		}
	}
	n := api.MaxMember + 1
	if _, e := s.Holds(n, v); e != api.ErrArg {
		t.Errorf("Holds(%d): error %d", n, e)
	}
	if _, e := s.Pledged(n, v); e != api.ErrArg {
		t.Errorf("Pledged(%d): error %d", n, e)
	}
	if _, e := s.Count(n, v); e != api.ErrArg {
		t.Errorf("Count(%d): error %d", n, e)
	}
}

// P1.4: the ends of the ranges.
func TestQuestionsAtTheEnds(t *testing.T) {
	s := stock.New()
	wantOK(t, s.Enter(span(api.MaxPocket-1, api.MaxPocket), 1, api.MaxMember), s.Pledge(span(api.MaxPocket, api.MaxPocket), api.MaxMember, api.MaxMember))
	wantPocket(t, s, api.MaxPocket, 2, stock.Pocket{State: stock.In, Lot: 1, Owner: api.MaxMember, Holder: api.MaxMember})
	wantPocket(t, s, 1, 2, stock.Pocket{})
	wantHolds(t, s, api.MaxMember, 1, stock.Hold{Span: span(api.MaxPocket-1, api.MaxPocket), Lot: 1, Owner: api.MaxMember})
	wantPledged(t, s, api.MaxMember, 2, stock.Hold{Span: span(api.MaxPocket, api.MaxPocket), Lot: 1, Owner: api.MaxMember, Holder: api.MaxMember})
	wantCount(t, s, api.MaxMember, 2, 2)
	wantFound(t, s, api.MaxMember, 1, 1, span(api.MaxPocket-1, api.MaxPocket-1))
	wantChanged(t, s, 0, 2, span(api.MaxPocket-1, api.MaxPocket))
	wantChanged(t, s, 1, 2, span(api.MaxPocket, api.MaxPocket))
}

// P1.5: finding.
func TestFind(t *testing.T) {
	s := stock.New()
	wantOK(t, s.Enter(span(1, 10), 7, 1), s.Move(span(3, 5), 1, 2), s.Pledge(span(8, 8), 1, 9), s.Enter(span(11, 12), 8, 1))
	wantFound(t, s, 1, 7, 1, span(1, 1))
	wantFound(t, s, 1, 7, 2, span(1, 2))
	wantFound(t, s, 1, 7, 3, span(1, 2), span(6, 6))
	wantFound(t, s, 1, 7, 4, span(1, 2), span(6, 7))
	wantFound(t, s, 1, 7, 5, span(1, 2), span(6, 7), span(9, 9))
	wantFound(t, s, 1, 7, 6, span(1, 2), span(6, 7), span(9, 10))
	wantNotFound(t, s, 1, 7, 7, api.ErrNone)
	wantFound(t, s, 1, 8, 2, span(11, 12))
	wantNotFound(t, s, 1, 8, 3, api.ErrNone)
	wantFound(t, s, 2, 7, 3, span(3, 5))
	wantNotFound(t, s, 2, 8, 1, api.ErrNone)
	wantNotFound(t, s, 9, 7, 1, api.ErrNone)
	wantNotFound(t, s, 1, 7, api.MaxPocket, api.ErrNone)
	wantVersion(t, s, 4)
	wantOK(t, s.Release(span(8, 8), 9))
	wantFound(t, s, 1, 7, 6, span(1, 2), span(6, 9))
	wantOK(t, s.Leave(span(1, 1), 1), s.Pledge(span(2, 2), 1, 1))
	wantFound(t, s, 1, 7, 5, span(6, 10))
	wantNotFound(t, s, 1, 7, 6, api.ErrNone)
}

// P1.5: spans that several calls made are found as one.
func TestFindJoins(t *testing.T) {
	s := stock.New()
	wantOK(t, s.Enter(span(499999, 500000), 7, 1), s.Enter(span(500001, 500002), 7, 1), s.Enter(span(500003, 500003), 7, 2), s.Move(span(500003, 500003), 2, 1))
	wantFound(t, s, 1, 7, 5, span(499999, 500003))
	wantFound(t, s, 1, 7, 3, span(499999, 500001))
}

// P1.5: the ranges of Find.
func TestFindRanges(t *testing.T) {
	s := stock.New()
	wantOK(t, s.Enter(span(1, api.MaxPocket), api.MaxLot, api.MaxMember))
	for _, x := range badMembers {
		wantNotFound(t, s, x, api.MaxLot, 1, api.ErrArg)
	}
	for _, x := range badLots {
		wantNotFound(t, s, api.MaxMember, x, 1, api.ErrArg)
	}
	for _, x := range badPockets {
		wantNotFound(t, s, api.MaxMember, api.MaxLot, x, api.ErrArg)
		wantNotFound(t, s, 1, 1, x, api.ErrArg)
	}
	wantFound(t, s, api.MaxMember, api.MaxLot, api.MaxPocket, span(1, api.MaxPocket))
}

// P1.5: comparing.
func TestChanged(t *testing.T) {
	s := stock.New()
	wantOK(t,
		s.Enter(span(1, 10), 7, 1),
		s.Move(span(3, 5), 1, 2),
		s.Pledge(span(8, 8), 1, 9),
		s.Move(span(6, 7), 1, 3),
		s.Leave(span(10, 10), 1),
		s.Seize(span(8, 8), 9),
		s.Move(span(8, 8), 9, 1),
		s.Enter(span(20, 21), 1, 1))
	wantChanged(t, s, 0, 1, span(1, 10))
	wantChanged(t, s, 1, 2, span(3, 5))
	wantChanged(t, s, 1, 3, span(3, 5), span(8, 8))
	wantChanged(t, s, 1, 4, span(3, 8))
	wantChanged(t, s, 2, 4, span(6, 8))
	wantChanged(t, s, 3, 4, span(6, 7))
	wantChanged(t, s, 4, 5, span(10, 10))
	wantChanged(t, s, 1, 5, span(3, 8), span(10, 10))
	wantChanged(t, s, 5, 6, span(8, 8))
	wantChanged(t, s, 2, 7, span(6, 7), span(10, 10))
	wantChanged(t, s, 0, 8, span(1, 10), span(20, 21))
	for v := range 9 {
		wantChanged(t, s, v, v)
	}
}

// P1.5: what is pledged, released or gone has changed, even if the owner is the same.
func TestChangedByPledges(t *testing.T) {
	s := stock.New()
	wantOK(t, s.Enter(span(1, 4), 1, 1), s.Pledge(span(1, 2), 1, 1), s.Release(span(1, 1), 1), s.Seize(span(2, 2), 1), s.Leave(span(4, 4), 1))
	wantChanged(t, s, 1, 2, span(1, 2))
	wantChanged(t, s, 2, 3, span(1, 1))
	wantChanged(t, s, 1, 3, span(2, 2))
	wantChanged(t, s, 1, 4)
	wantChanged(t, s, 0, 5, span(1, 4))
	wantChanged(t, s, 1, 5, span(4, 4))
}

// P1.5: versions that there are not.
func TestChangedRefused(t *testing.T) {
	s, v := scene(t)
	for _, x := range []int{-1, v + 1, math.MaxInt, math.MinInt} {
		for _, y := range []int{0, v, x} {
			for _, p := range [][2]int{{x, y}, {y, x}} {
				if l, e := s.Changed(p[0], p[1]); e != api.ErrNone || len(l) != 0 {
					t.Errorf("Changed(%d, %d) is %v, error %d, want error %d alone", p[0], p[1], l, e, api.ErrNone)
				}
			}
		}
	}
}

// P1.5: a fork has the same versions and goes its own way.
func TestFork(t *testing.T) {
	s := stock.New()
	wantOK(t, s.Enter(span(1, 10), 7, 1), s.Move(span(3, 5), 1, 2))
	f := s.Fork()
	wantVersion(t, f, 2)
	wantHolds(t, f, 1, 1, stock.Hold{Span: span(1, 10), Lot: 7, Owner: 1})
	wantHolds(t, f, 2, 2, stock.Hold{Span: span(3, 5), Lot: 7, Owner: 2})
	wantHolds(t, f, 1, 0)
	wantOK(t, s.Leave(span(1, 1), 1), f.Pledge(span(2, 2), 1, 4), f.Enter(span(11, 11), 7, 1))
	g := f.Fork()
	wantOK(t, g.Move(span(11, 11), 1, 2), f.Move(span(11, 11), 1, 3), s.Move(span(2, 2), 1, 2), s.Move(span(6, 6), 1, 2))
	wantVersion(t, s, 5)
	wantVersion(t, f, 5)
	wantVersion(t, g, 5)
	wantPocket(t, s, 1, 3, stock.Pocket{State: stock.Gone})
	wantPocket(t, f, 1, 3, stock.Pocket{State: stock.In, Lot: 7, Owner: 1})
	wantPocket(t, s, 2, 5, stock.Pocket{State: stock.In, Lot: 7, Owner: 2})
	wantPocket(t, f, 2, 5, stock.Pocket{State: stock.In, Lot: 7, Owner: 1, Holder: 4})
	wantPocket(t, s, 11, 5, stock.Pocket{})
	wantPocket(t, f, 11, 5, stock.Pocket{State: stock.In, Lot: 7, Owner: 3})
	wantPocket(t, g, 11, 5, stock.Pocket{State: stock.In, Lot: 7, Owner: 2})
	wantPocket(t, f, 11, 4, stock.Pocket{State: stock.In, Lot: 7, Owner: 1})
	wantPocket(t, g, 11, 4, stock.Pocket{State: stock.In, Lot: 7, Owner: 1})
	wantChanged(t, s, 2, 5, span(1, 2), span(6, 6))
	wantChanged(t, f, 2, 5, span(2, 2), span(11, 11))
	wantVersion(t, stock.New().Fork(), 0)
}

// P1.8.
func TestNil(t *testing.T) {
	var s *stock.Stock
	x := span(1, 1)
	for _, e := range []api.Errno{s.Enter(x, 1, 1), s.Move(x, 1, 2), s.Pledge(x, 1, 2), s.Release(x, 1), s.Seize(x, 1), s.Leave(x, 1)} {
		wantError(t, "a change of nil", e, api.ErrNil)
	}
	x = span(0, -5)
	for _, e := range []api.Errno{s.Enter(x, 0, 0), s.Move(x, 0, 0), s.Pledge(x, 0, 0), s.Release(x, 0), s.Seize(x, 0), s.Leave(x, 0)} {
		wantError(t, "a change of nil with bad arguments", e, api.ErrNil)
	}
	wantVersion(t, s, 0)
	if s.Fork() != nil {
		t.Error("Fork of nil is not nil")
	}
	for _, n := range []int{0, 1, -1, math.MaxInt} {
		p, e := s.Pocket(n, n)
		wantError(t, "Pocket of nil", e, api.ErrNil)
		holds, e := s.Holds(n, n)
		wantError(t, "Holds of nil", e, api.ErrNil)
		pledged, e := s.Pledged(n, n)
		wantError(t, "Pledged of nil", e, api.ErrNil)
		count, e := s.Count(n, n)
		wantError(t, "Count of nil", e, api.ErrNil)
		found, e := s.Find(n, n, n)
		wantError(t, "Find of nil", e, api.ErrNil)
		changed, e := s.Changed(n, n)
		wantError(t, "Changed of nil", e, api.ErrNil)
		if p != (stock.Pocket{}) || len(holds)+len(pledged)+count+len(found)+len(changed) != 0 {
			t.Error("a nil register has contents")
		}
	}
}

// R4: what a caller does to a result changes nothing.
func TestResultsAreNewMemory(t *testing.T) {
	s, v := scene(t)
	holds, _ := s.Holds(1, v)
	pledged, _ := s.Pledged(9, v)
	found, _ := s.Find(1, 7, 8)
	changed, _ := s.Changed(0, v)
	for range 2 {
		h, _ := s.Holds(1, v)
		p, _ := s.Pledged(9, v)
		f, _ := s.Find(1, 7, 8)
		c, _ := s.Changed(0, v)
		if !slices.Equal(h, holds) || !slices.Equal(p, pledged) || !slices.Equal(f, found) || !slices.Equal(c, changed) {
			t.Error("a result has changed")
		}
		clear(h[:cap(h)])
		clear(p[:cap(p)])
		clear(f[:cap(f)])
		clear(c[:cap(c)])
	}
}
