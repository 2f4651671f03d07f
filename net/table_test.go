package net_test

import (
	"math"
	"math/rand/v2"
	"slices"
	"testing"

	"oast/api"
	"oast/net"
)

// P6.1: what is wrong with a table, in this order; all calls say it first.
func TestWrongTables(t *testing.T) {
	for want, tables := range wrongTables() {
		for _, debts := range tables {
			if e := net.Check(debts); e != want {
				t.Errorf("Check(%v): error %d, want %d", debts, e, want)
			}
			if l, e := net.Positions(debts); len(l) > 0 || e != want {
				t.Errorf("Positions(%v): %v, error %d, want %d", debts, l, e, want)
			}
			if c, amount, e := net.Cancel(debts); len(c) > 0 || amount != 0 || e != want {
				t.Errorf("Cancel(%v): %v, %d, error %d, want %d", debts, c, amount, e, want)
			}
			if l, e := net.Ranks(debts); len(l) > 0 || e != want {
				t.Errorf("Ranks(%v): %v, error %d, want %d", debts, l, e, want)
			}
			wantBound(t, debts, nil, 0, want)
			wantBound(t, debts, make([]int64, len(debts)), 0, want)
			wantBound(t, debts, []int64{-1001}, 0, want)
			wantCancelling(t, debts, debts, false)
			wantCancelling(t, debts, none(len(debts)), false)
			wantRing(t, debts, false)
			if l, e := net.Settle(debts); len(l) > 0 || e != want {
				t.Errorf("Settle(%v): %v, error %d, want %d", debts, l, e, want)
			}
			if l, e := net.Pairwise(debts); len(l) > 0 || e != want {
				t.Errorf("Pairwise(%v): %v, error %d, want %d", debts, l, e, want)
			}
		}
	}
}

// P6.1: what is valid.
func TestValidTables(t *testing.T) {
	for _, debts := range [][][]int64{
		{{0}}, none(2), none(api.MaxParties), full(api.MaxParties, api.MaxDebt), {{0, api.MaxDebt}, {0, 0}}, {{0, 1}, {1, 0}}, example(),
	} {
		if e := net.Check(debts); e != api.OK {
			t.Errorf("Check(%v): error %d", debts, e)
		}
	}
}

// P6.1: what the others owe a party less what it owes.
func TestPositions(t *testing.T) {
	wantPositions(t, example(), 1, -4, 3)
	wantPositions(t, [][]int64{{0}}, 0)
	wantPositions(t, none(3), 0, 0, 0)
	wantPositions(t, [][]int64{{0, 7}, {0, 0}}, -7, 7)
	wantPositions(t, full(api.MaxParties, api.MaxDebt), make([]int64, api.MaxParties)...)
	one := none(api.MaxParties)
	want := make([]int64, api.MaxParties)
	for party := 1; party < api.MaxParties; party++ {
		one[0][party], want[party] = api.MaxDebt, api.MaxDebt
	}
	want[0] = -31 * api.MaxDebt
	wantPositions(t, one, want...)
	tables(1, 200, func(_ *rand.Rand, debts [][]int64) {
		var want []int64
		for party := range debts {
			want = append(want, position(debts, party))
		}
		wantPositions(t, debts, want...)
	})
}

// P6.2: the bound, with ranks to both ends of their range.
func TestBound(t *testing.T) {
	wantBound(t, example(), []int64{0, 0, 0}, 18, api.OK)
	wantBound(t, example(), []int64{0, 1, 2}, 16, api.OK)
	wantBound(t, example(), []int64{1, 0, 1}, 14, api.OK)
	wantBound(t, [][]int64{{0}}, []int64{-7}, 0, api.OK)
	wantBound(t, [][]int64{{0, 3}, {5, 0}}, []int64{1000, -1000}, 3*2001, api.OK)
	wantBound(t, [][]int64{{0, 3}, {5, 0}}, []int64{-1000, 1000}, 5*2001, api.OK)
	half, all := make([]int64, api.MaxParties), slices.Repeat([]int64{-1000}, api.MaxParties)
	for i := range 16 {
		half[i], half[31-i] = 1000, -1000
	}
	wantBound(t, full(api.MaxParties, api.MaxDebt), half, (16*16*2001+16*15*2)*api.MaxDebt, api.OK)
	wantBound(t, full(api.MaxParties, api.MaxDebt), all, 32*31*api.MaxDebt, api.OK)
	tables(2, 200, func(r *rand.Rand, debts [][]int64) {
		ranks := make([]int64, len(debts))
		for i := range ranks {
			ranks[i] = r.Int64N(2001)>>r.IntN(11) - r.Int64N(1001)>>r.IntN(11)
			ranks[i] = min(ranks[i], 1000)
		}
		wantBound(t, debts, ranks, bound(debts, ranks), api.OK)
	})
}

// P6.2: what is wrong with ranks: first their number, then any of them.
func TestWrongRanks(t *testing.T) {
	for _, ranks := range [][]int64{nil, {}, {0}, {0, 0}, {0, 0, 0, 0}, {-1001, 0}, {1001, 0, 0, 0}} {
		wantBound(t, example(), ranks, 0, api.ErrShape)
	}
	for _, rank := range []int64{1001, -1001, math.MaxInt64, math.MinInt64} {
		wantBound(t, example(), []int64{rank, 0, 0}, 0, api.ErrArg)
		wantBound(t, example(), []int64{0, 0, rank}, 0, api.ErrArg)
		wantBound(t, [][]int64{{0}}, []int64{rank}, 0, api.ErrArg)
	}
}

// P6.2: what a cancelling is.
func TestIsCancelling(t *testing.T) {
	ring := chain(5, 7, 4)
	for _, c := range [][][]int64{
		none(3), chain(1, 1, 1), chain(4, 4, 4),
	} {
		wantCancelling(t, ring, c, true)
	}
	for _, c := range [][][]int64{
		nil, {}, {{0}}, none(2), none(4), {{0, 0, 0}, {0, 0, 0}, {0, 0}}, {nil, nil, nil}, {{0, 0, 0}, {0, 0, 0, 0}, {0, 0, 0}},
		chain(5, 5, 5), chain(4, 4, 3), chain(4, 3, 4), chain(3, 4, 4), chain(-1, -1, -1), chain(1, 0, 0),
		with(with(none(3), 1, 0, 1), 0, 1, 1), with(none(3), 0, 0, 1), with(none(3), 2, 2, -1),
		chain(math.MaxInt64, math.MaxInt64, math.MaxInt64), chain(math.MinInt64, math.MinInt64, math.MinInt64),
	} {
		wantCancelling(t, ring, c, false)
	}
	wantCancelling(t, example(), [][]int64{{0, 5, 0}, {1, 0, 4}, {4, 0, 0}}, true)
	wantCancelling(t, example(), [][]int64{{0, 5, 0}, {2, 0, 4}, {4, 0, 0}}, false)
	wantCancelling(t, [][]int64{{0}}, [][]int64{{0}}, true)
	wantCancelling(t, [][]int64{{0}}, [][]int64{{1}}, false)
	wantCancelling(t, full(api.MaxParties, api.MaxDebt), full(api.MaxParties, api.MaxDebt), true)
	wantCancelling(t, full(api.MaxParties, api.MaxDebt), with(full(api.MaxParties, api.MaxDebt), 31, 30, api.MaxDebt-1), false)
	small := [][]int64{{0, 2, 1}, {1, 0, 2}, {2, 1, 0}}
	each([]int64{0, 2, 2, 2, 0, 2, 2, 2, 0}, func(l []int64) {
		c := slices.Collect(slices.Chunk(l, 3))
		wantCancelling(t, small, c, isCancelling(small, c))
	})
}

// P6.2: a ring, if there is one.
func TestRing(t *testing.T) {
	wantRing(t, example(), true)
	wantRing(t, [][]int64{{0}}, false)
	wantRing(t, none(api.MaxParties), false)
	wantRing(t, [][]int64{{0, 1}, {0, 0}}, false)
	wantRing(t, [][]int64{{0, 1}, {1, 0}}, true)
	wantRing(t, chain(1, 1, 1, 0), false)
	wantRing(t, chain(1, 1, 1, 1), true)
	long := slices.Repeat([]int64{1}, api.MaxParties)
	wantRing(t, chain(long...), true)
	for at := range long {
		broken := slices.Clone(long)
		broken[at] = 0
		wantRing(t, chain(broken...), false)
	}
	upper := full(api.MaxParties, 1)
	for i := range upper {
		clear(upper[i][:i])
	}
	wantRing(t, upper, false)
	wantRing(t, with(upper, 31, 0, 1), true)
	wantRing(t, with(upper, 17, 16, 1), true)
	// The way into a ring is not of it.
	wantRing(t, [][]int64{{0, 1, 0, 0}, {0, 0, 1, 0}, {0, 0, 0, 1}, {0, 0, 1, 0}}, true)
	tables(3, 400, func(_ *rand.Rand, debts [][]int64) { wantRing(t, debts, hasRing(debts)) })
}

// P6.3: of the debts of two parties to one another only the difference is left.
func TestPairwise(t *testing.T) {
	wantPairwise(t, example(), [][]int64{{0, 3, 0}, {0, 0, 7}, {4, 0, 0}})
	wantPairwise(t, [][]int64{{0}}, none(1))
	wantPairwise(t, [][]int64{{0, 1}, {api.MaxDebt, 0}}, [][]int64{{0, 0}, {api.MaxDebt - 1, 0}})
	wantPairwise(t, [][]int64{{0, 5}, {5, 0}}, none(2))
	wantPairwise(t, full(api.MaxParties, 3), none(api.MaxParties))
	tables(4, 200, func(_ *rand.Rand, debts [][]int64) {
		want := none(len(debts))
		for i := range debts {
			for j := range debts {
				if debts[i][j] > debts[j][i] {
					want[i][j] = debts[i][j] - debts[j][i]
				}
			}
		}
		wantPairwise(t, debts, want)
	})
}
