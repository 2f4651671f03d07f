package net_test

import (
	"math"
	"math/rand/v2"
	"slices"
	"testing"

	"oast/api"
	"oast/net"
)

// example is the chapter's first table.
func example() [][]int64 { return [][]int64{{0, 5, 0}, {2, 0, 7}, {4, 0, 0}} }

// pinch is the chapter's crisis.
func pinch() net.Crisis { return crisis([][]int64{{0, 10}, {3, 0}}, 4, 0) }

func crisis(debts [][]int64, cash ...int64) net.Crisis { return net.Crisis{Debts: debts, Cash: cash} }

// none is a table of n parties without debts.
func none(n int) [][]int64 {
	t := make([][]int64, n)
	for i := range t {
		t[i] = make([]int64, n)
	}
	return t
}

// full is a table of n parties all of whom owe one another so much.
func full(n int, debt int64) [][]int64 {
	t := none(n)
	for i := range t {
		for j := range t {
			if i != j {
				t[i][j] = debt
			}
		}
	}
	return t
}

// with is a table with another element.
func with(t [][]int64, i, j int, debt int64) [][]int64 {
	t = copyTable(t)
	t[i][j] = debt
	return t
}

// chain is a table in which each party owes the next one so much; with a last debt, the last one owes the first.
func chain(debts ...int64) [][]int64 {
	t := none(len(debts))
	for i, debt := range debts {
		t[i][(i+1)%len(debts)] = debt
	}
	return t
}

// anyTable is a table of n parties with debts of at most most, so many of ten of them none.
func anyTable(r *rand.Rand, n int, most int64, without int) [][]int64 {
	t := none(n)
	for i := range t {
		for j := range t {
			if i != j && r.IntN(10) >= without {
				t[i][j] = r.Int64N(most + 1)
			}
		}
	}
	return t
}

// anyCrisis is a crisis of n parties with debts of at most most, and cash from least on; if least is 0, some have none.
func anyCrisis(r *rand.Rand, n int, most, least, cash int64) net.Crisis {
	c := net.Crisis{Debts: anyTable(r, n, most, r.IntN(10)), Cash: make([]int64, n)}
	for i := range c.Cash {
		if least > 0 || r.IntN(2) == 0 {
			c.Cash[i] = least + r.Int64N(cash-least+1)
		}
	}
	return c
}

// tables are many tables of all kinds.
func tables(seed uint64, count int, visit func(r *rand.Rand, t [][]int64)) {
	r := rand.New(rand.NewPCG(seed, 6))
	most := []int64{1, 2, 10, 1000, api.MaxDebt}
	for range count {
		n := 1 + r.IntN(8)
		if r.IntN(20) == 0 {
			n = api.MaxParties - r.IntN(2)
		}
		visit(r, anyTable(r, n, most[r.IntN(len(most))], r.IntN(10)))
	}
}

// crises are many crises of all kinds that end soon even if they are worked out as slowly as by their definition: so those
// with large debts are of parties all of which have some cash.
func crises(seed uint64, count int, visit func(r *rand.Rand, c net.Crisis)) {
	r := rand.New(rand.NewPCG(seed, 6))
	most := []int64{1, 2, 10, 100, 1000}
	for range count {
		n := 1 + r.IntN(7)
		if r.IntN(20) == 0 {
			n = api.MaxParties - r.IntN(2)
		}
		switch r.IntN(4) {
		case 0:
			visit(r, anyCrisis(r, n, api.MaxDebt, api.MaxDebt/16, api.MaxDebt))
		default:
			visit(r, anyCrisis(r, n, most[r.IntN(len(most))], 0, most[r.IntN(len(most))]))
		}
	}
}

func sameTable(a, b [][]int64) bool { return slices.EqualFunc(a, b, slices.Equal[[]int64]) }

func sameLists(a, b [][]int) bool { return slices.EqualFunc(a, b, slices.Equal[[]int]) }

func copyTable(t [][]int64) [][]int64 {
	c := make([][]int64, len(t))
	for i := range t {
		c[i] = slices.Clone(t[i])
	}
	return c
}

// wrongTables are tables that are not valid, each with its error.
func wrongTables() map[api.Errno][][][]int64 {
	long := full(api.MaxParties, 1)
	return map[api.Errno][][][]int64{
		api.ErrArg: {nil, {}},
		api.ErrLong: {
			full(api.MaxParties+1, 1),
			make([][]int64, api.MaxParties+1),
			full(100, -1),
		},
		api.ErrShape: {
			{{}}, {nil}, {{0, 1}}, {{0}, {0}}, {{0, 1}, {1}}, {{0, 1}, {1, 0, 0}}, {{0, 1}, nil},
			{{5, -1}, {1}}, {{0, api.MaxDebt + 1, 0}, {0, 0, 0}, {0, 0}},
			append(long[:31:31], nil),
		},
		api.ErrDebt: {
			{{1}}, {{-1}}, {{0, -1}, {0, 0}}, {{0, 0}, {api.MaxDebt + 1, 0}}, {{0, 1}, {1, 1}}, {{0, 1}, {1, -1}},
			{{0, math.MinInt64}, {0, 0}}, {{0, math.MaxInt64}, {0, 0}}, {{math.MaxInt64, 0}, {0, 0}},
			with(long, 31, 30, -1), with(long, 31, 31, 1),
		},
	}
}

// wrongCrises are crises that are not valid, each with its error.
func wrongCrises() map[api.Errno][]net.Crisis {
	wrong := map[api.Errno][]net.Crisis{}
	for e, tables := range wrongTables() {
		for _, t := range tables {
			wrong[e] = append(wrong[e], crisis(t, make([]int64, len(t))...), crisis(t), crisis(t, -1))
		}
	}
	wrong[api.ErrShape] = append(wrong[api.ErrShape],
		crisis(none(1)), crisis(none(2), 1), crisis(none(2), 1, 1, 1), crisis(none(2), -1), crisis(none(32), make([]int64, 33)...))
	wrong[api.ErrArg] = append(wrong[api.ErrArg],
		crisis(none(1), -1), crisis(none(1), api.MaxDebt+1), crisis(none(2), 0, math.MinInt64), crisis(none(2), math.MaxInt64, 0))
	return wrong
}

func wantPositions(t *testing.T, debts [][]int64, want ...int64) {
	t.Helper()
	if l, e := net.Positions(debts); e != api.OK || !slices.Equal(l, want) {
		t.Errorf("Positions(%v): %v, error %d, want %v", debts, l, e, want)
	}
}

// wantCancel asks for a cancelling, and ranks that show that there is none with a greater amount.
func wantCancel(t *testing.T, debts [][]int64, want int64) {
	t.Helper()
	c, amount, e := net.Cancel(debts)
	if e != api.OK || amount != want || !isCancelling(debts, c) || sum(c) != amount {
		t.Errorf("Cancel(%v): %v, %d, error %d, want %d", debts, c, amount, e, want)
	}
	ranks, e := net.Ranks(debts)
	if e != api.OK || len(ranks) != len(debts) || slices.Min(ranks) < 0 || slices.Max(ranks) > 1000 || bound(debts, ranks) != want {
		t.Errorf("Ranks(%v): %v, error %d, want the bound %d", debts, ranks, e, want)
	}
}

func wantBound(t *testing.T, debts [][]int64, ranks []int64, want int64, e api.Errno) {
	t.Helper()
	if got, err := net.Bound(debts, ranks); got != want || err != e {
		t.Errorf("Bound(%v, %v): %d, error %d, want %d, error %d", debts, ranks, got, err, want, e)
	}
}

func wantCancelling(t *testing.T, debts, c [][]int64, want bool) {
	t.Helper()
	if ok := net.IsCancelling(debts, c); ok != want {
		t.Errorf("IsCancelling(%v, %v): %v", debts, c, ok)
	}
}

// wantRing asks for a ring, and examines it by its definition, or asks for none.
func wantRing(t *testing.T, debts [][]int64, want bool) {
	t.Helper()
	l, ok := net.Ring(debts)
	if ok != want || ok != isRing(debts, l) || !ok && len(l) > 0 {
		t.Errorf("Ring(%v): %v, %v, want %v", debts, l, ok, want)
	}
}

func wantSettle(t *testing.T, debts [][]int64, want ...net.Transfer) {
	t.Helper()
	if l, e := net.Settle(debts); e != api.OK || !slices.Equal(l, want) {
		t.Errorf("Settle(%v): %v, error %d, want %v", debts, l, e, want)
	}
}

func wantPairwise(t *testing.T, debts, want [][]int64) {
	t.Helper()
	if l, e := net.Pairwise(debts); e != api.OK || !sameTable(l, want) {
		t.Errorf("Pairwise(%v): %v, error %d, want %v", debts, l, e, want)
	}
}

func wantClear(t *testing.T, c net.Crisis, want ...int64) {
	t.Helper()
	if l, e := net.Clear(c); e != api.OK || !slices.Equal(l, want) {
		t.Errorf("Clear(%v): %v, error %d, want %v", c, l, e, want)
	}
}

func wantReceived(t *testing.T, c net.Crisis, pays []int64, e api.Errno, want ...int64) {
	t.Helper()
	if l, err := net.Received(c, pays); err != e || !slices.Equal(l, want) {
		t.Errorf("Received(%v, %v): %v, error %d, want %v, error %d", c, pays, l, err, want, e)
	}
}

func wantClearing(t *testing.T, c net.Crisis, pays []int64, want bool) {
	t.Helper()
	if ok := net.IsClearing(c, pays); ok != want {
		t.Errorf("IsClearing(%v, %v): %v", c, pays, ok)
	}
}

func wantFailing(t *testing.T, c net.Crisis, want ...int) {
	t.Helper()
	if l, e := net.Failing(c); e != api.OK || !slices.Equal(l, want) {
		t.Errorf("Failing(%v): %v, error %d, want %v", c, l, e, want)
	}
}

func wantWorths(t *testing.T, c net.Crisis, want ...int64) {
	t.Helper()
	if l, e := net.Worths(c); e != api.OK || !slices.Equal(l, want) {
		t.Errorf("Worths(%v): %v, error %d, want %v", c, l, e, want)
	}
}

func wantWaves(t *testing.T, c net.Crisis, want ...[]int) {
	t.Helper()
	if l, e := net.Waves(c); e != api.OK || !sameLists(l, want) {
		t.Errorf("Waves(%v): %v, error %d, want %v", c, l, e, want)
	}
}

func wantRescue(t *testing.T, c net.Crisis, party int, want int64, e api.Errno) {
	t.Helper()
	if got, err := net.Rescue(c, party); got != want || err != e {
		t.Errorf("Rescue(%v, %d): %d, error %d, want %d, error %d", c, party, got, err, want, e)
	}
}
