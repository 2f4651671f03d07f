package stock_test

import (
	"math"
	"slices"
	"testing"

	"oast/api"
	"oast/stock"
)

// span is the pockets from the number from to the number to.
func span(from, to int) api.Span { return api.Span{From: from, Count: to - from + 1} }

func wantError(t *testing.T, what string, got, want api.Errno) {
	t.Helper()
	if got != want {
		t.Errorf("%s: error %d, want %d", what, got, want)
	}
}

func wantOK(t *testing.T, l ...api.Errno) {
	t.Helper()
	for i, e := range l {
		if e != api.OK {
			t.Errorf("call %d: error %d, want none", i, e)
		}
	}
}

func wantVersion(t *testing.T, s *stock.Stock, want int) {
	t.Helper()
	if got := s.Version(); got != want {
		t.Errorf("Version() is %d, want %d", got, want)
	}
}

func wantPocket(t *testing.T, s *stock.Stock, n, version int, want stock.Pocket) {
	t.Helper()
	got, e := s.Pocket(n, version)
	if e != api.OK || got != want {
		t.Errorf("Pocket(%d, %d) is %v, error %d, want %v", n, version, got, e, want)
	}
}

func wantHolds(t *testing.T, s *stock.Stock, owner, version int, want ...stock.Hold) {
	t.Helper()
	got, e := s.Holds(owner, version)
	if e != api.OK || !slices.Equal(got, want) {
		t.Errorf("Holds(%d, %d) is %v, error %d, want %v", owner, version, got, e, want)
	}
}

func wantPledged(t *testing.T, s *stock.Stock, holder, version int, want ...stock.Hold) {
	t.Helper()
	got, e := s.Pledged(holder, version)
	if e != api.OK || !slices.Equal(got, want) {
		t.Errorf("Pledged(%d, %d) is %v, error %d, want %v", holder, version, got, e, want)
	}
}

func wantCount(t *testing.T, s *stock.Stock, owner, version, want int) {
	t.Helper()
	got, e := s.Count(owner, version)
	if e != api.OK || got != want {
		t.Errorf("Count(%d, %d) is %d, error %d, want %d", owner, version, got, e, want)
	}
}

func wantFound(t *testing.T, s *stock.Stock, owner, lot, n int, want ...api.Span) {
	t.Helper()
	got, e := s.Find(owner, lot, n)
	if e != api.OK || !slices.Equal(got, want) {
		t.Errorf("Find(%d, %d, %d) is %v, error %d, want %v", owner, lot, n, got, e, want)
	}
}

func wantNotFound(t *testing.T, s *stock.Stock, owner, lot, n int, want api.Errno) {
	t.Helper()
	got, e := s.Find(owner, lot, n)
	if e != want || len(got) != 0 {
		t.Errorf("Find(%d, %d, %d) is %v, error %d, want error %d alone", owner, lot, n, got, e, want)
	}
}

// wantChanged asks both ways round: the order of the versions makes no difference.
func wantChanged(t *testing.T, s *stock.Stock, a, b int, want ...api.Span) {
	t.Helper()
	for _, v := range [][2]int{{a, b}, {b, a}} {
		got, e := s.Changed(v[0], v[1])
		if e != api.OK || !slices.Equal(got, want) {
			t.Errorf("Changed(%d, %d) is %v, error %d, want %v", v[0], v[1], got, e, want)
		}
	}
}

// wantRefused makes a call of which an error is expected, and no effect.
func wantRefused(t *testing.T, s *stock.Stock, what string, got, want api.Errno, version int) {
	t.Helper()
	wantError(t, what, got, want)
	wantVersion(t, s, version)
}

// badSpans are spans that are not valid.
var badSpans = []api.Span{
	{},
	{From: 0, Count: 1},
	{From: 0, Count: 2},
	{From: -1, Count: 3},
	{From: 1, Count: 0},
	{From: 1, Count: -1},
	{From: 5, Count: -4},
	{From: 1, Count: api.MaxPocket + 1},
	{From: 2, Count: api.MaxPocket},
	{From: api.MaxPocket, Count: 2},
	{From: api.MaxPocket + 1, Count: 1},
	{From: api.MaxPocket + 1, Count: 0},
	{From: api.MaxPocket + 2, Count: -1},
	{From: math.MaxInt, Count: 1},
	{From: math.MaxInt, Count: 2},
	{From: math.MaxInt, Count: math.MaxInt},
	{From: 2, Count: math.MaxInt},
	{From: 1, Count: math.MaxInt},
	{From: math.MinInt, Count: math.MaxInt},
	{From: math.MinInt, Count: math.MinInt},
	{From: math.MinInt, Count: 1},
	{From: 1, Count: math.MinInt},
}

var badMembers = []int{0, -1, api.MaxMember + 1, math.MaxInt, math.MinInt}
var badLots = []int{0, -1, api.MaxLot + 1, math.MaxInt, math.MinInt}
var badPockets = []int{0, -1, api.MaxPocket + 1, math.MaxInt, math.MinInt}
