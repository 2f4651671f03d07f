package net_test

import (
	"math/rand/v2"
	"testing"

	"oast/api"
	"oast/net"
)

// P6.2: the chapter's example, DOC.md's example 6, and the ends of the range.
func TestCancel(t *testing.T) {
	wantCancel(t, example(), 14)
	wantCancel(t, chain(5, 7, 4), 12)
	wantCancel(t, [][]int64{{0}}, 0)
	wantCancel(t, none(api.MaxParties), 0)
	wantCancel(t, [][]int64{{0, 1}, {0, 0}}, 0)
	wantCancel(t, [][]int64{{0, 1}, {1, 0}}, 2)
	wantCancel(t, full(api.MaxParties, api.MaxDebt), 32*31*api.MaxDebt)
	wantCancel(t, with(full(api.MaxParties, api.MaxDebt), 4, 9, 0), 32*31*api.MaxDebt-2*api.MaxDebt)
	// Two rings share the debt of 0 to 1: the long one is worth more; of two that cross, both are.
	wantCancel(t, [][]int64{{0, 1, 0, 0}, {1, 0, 1, 0}, {0, 0, 0, 1}, {1, 0, 0, 0}}, 4)
	wantCancel(t, [][]int64{{0, 1, 0, 0}, {1, 0, 1, 0}, {0, 0, 0, 1}, {1, 0, 1, 0}}, 4)
	long := make([]int64, api.MaxParties)
	for i := range long {
		long[i] = int64(1000 - i)
	}
	wantCancel(t, chain(long...), 32*969)
	// All owe those before them much, and the next one little.
	upper := chain(long...)
	for i := range upper {
		for j := range i {
			upper[i][j] = api.MaxDebt
		}
	}
	wantCancel(t, upper, amount(upper))
}

// amount is what Cancel says, where the ranks alone decide whether it is right.
func amount(debts [][]int64) int64 {
	_, amount, _ := net.Cancel(debts)
	return amount
}

// P6.2, P6.7: no cancelling at all has a greater amount.
func TestCancelOfAll(t *testing.T) {
	each([]int64{0, 2, 1, 2, 0, 2, 1, 2, 0}, func(l []int64) {
		debts := [][]int64{{0, l[1], l[2]}, {l[3], 0, l[5]}, {l[6], l[7], 0}}
		wantCancel(t, debts, greatest(debts))
	})
	r := rand.New(rand.NewPCG(5, 6))
	for range 60 {
		debts := anyTable(r, 4, 1, 3)
		wantCancel(t, debts, greatest(debts))
	}
}

// P6.2, P6.7, W1: the ranks have the amount as their bound, so it is the greatest; what is left has no ring, and the
// positions of all.
func TestCancelHasItsBound(t *testing.T) {
	tables(6, 600, func(r *rand.Rand, debts [][]int64) {
		wantCancel(t, debts, amount(debts))
		c, amount, _ := net.Cancel(debts)
		left := minus(debts, c)
		wantRing(t, left, false)
		wantCancel(t, left, 0)
		for party := range debts {
			if position(left, party) != position(debts, party) {
				t.Errorf("%v without %v: party %d is worth something else", debts, c, party)
			}
		}
		ranks, _ := net.Ranks(debts)
		wantBound(t, debts, ranks, amount, api.OK)
		for i := range ranks {
			ranks[i] += r.Int64N(3) - 1
		}
		if b, e := net.Bound(debts, ranks); e != api.OK || b < amount {
			t.Errorf("Bound(%v, %v): %d, error %d, but %v cancels %d", debts, ranks, b, e, c, amount)
		}
	})
}

// P6.2, P1: large tables that take many steps.
func TestCancelOfLargeTables(t *testing.T) {
	r := rand.New(rand.NewPCG(7, 6))
	for without := range 10 {
		debts := anyTable(r, api.MaxParties, api.MaxDebt, without)
		wantCancel(t, debts, amount(debts))
	}
	steep := full(api.MaxParties, 0)
	for i := range steep {
		for j := range steep {
			if i != j {
				steep[i][j] = int64(i*i*31+j) * 30
			}
			if j == i+1 {
				steep[i][j] = api.MaxDebt
			}
		}
	}
	wantCancel(t, steep, amount(steep))
}
