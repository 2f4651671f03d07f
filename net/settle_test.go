package net_test

import (
	"math/rand/v2"
	"testing"

	"oast/api"
	"oast/net"
)

// P6.3: the one with the most pays the one that gets the most; of several, the least.
func TestSettle(t *testing.T) {
	wantSettle(t, example(), net.Transfer{From: 1, To: 2, Amount: 3}, net.Transfer{From: 1, To: 0, Amount: 1})
	wantSettle(t, [][]int64{{0}})
	wantSettle(t, none(api.MaxParties))
	wantSettle(t, full(api.MaxParties, api.MaxDebt))
	wantSettle(t, [][]int64{{0, 3}, {1, 0}}, net.Transfer{From: 0, To: 1, Amount: 2})
	wantSettle(t, chain(api.MaxDebt, api.MaxDebt, 0), net.Transfer{From: 0, To: 2, Amount: api.MaxDebt})
	// Parties 0 and 1 owe 2 each, 2 and 3 get 2 each.
	wantSettle(t, [][]int64{{0, 0, 2, 0}, {0, 0, 0, 2}, {0, 0, 0, 0}, {0, 0, 0, 0}},
		net.Transfer{From: 0, To: 2, Amount: 2}, net.Transfer{From: 1, To: 3, Amount: 2})
	// 0 owes 5, 1 owes 4; 2, 3 and 4 get 3 each: then 1 has the most, then 0 and 1 have 2 and 1 left.
	wantSettle(t, [][]int64{{0, 0, 3, 2, 0}, {0, 0, 0, 1, 3}, {0, 0, 0, 0, 0}, {0, 0, 0, 0, 0}, {0, 0, 0, 0, 0}},
		net.Transfer{From: 0, To: 2, Amount: 3}, net.Transfer{From: 1, To: 3, Amount: 3},
		net.Transfer{From: 0, To: 4, Amount: 2}, net.Transfer{From: 1, To: 4, Amount: 1})
	// 1 owes 6, 2 gets 4, 0 gets 2: 2 comes before 0. Then all have the same.
	wantSettle(t, [][]int64{{0, 0, 0}, {2, 0, 4}, {0, 0, 0}},
		net.Transfer{From: 1, To: 2, Amount: 4}, net.Transfer{From: 1, To: 0, Amount: 2})
	one := none(api.MaxParties)
	var want []net.Transfer
	for party := range 31 {
		one[31][party] = api.MaxDebt
		want = append(want, net.Transfer{From: 31, To: party, Amount: api.MaxDebt})
	}
	wantSettle(t, one, want...)
}

// P6.3, P6.8, W4: the transfers are those that the rule makes, fewer than parties, and change the money by the positions.
func TestSettleByItsRule(t *testing.T) {
	tables(8, 600, func(_ *rand.Rand, debts [][]int64) {
		wantSettle(t, debts, settle(debts)...)
		l, _ := net.Settle(debts)
		if len(l) >= len(debts) {
			t.Errorf("Settle(%v): %d transfers", debts, len(l))
		}
		money := make([]int64, len(debts))
		for _, x := range l {
			if x.Amount < 1 || x.From == x.To {
				t.Errorf("Settle(%v): %v", debts, x)
			}
			money[x.From] -= x.Amount
			money[x.To] += x.Amount
		}
		wantPositions(t, debts, money...)
	})
}
