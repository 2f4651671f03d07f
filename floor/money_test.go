package floor_test

import (
	"fmt"
	"slices"
	"testing"

	"oast/api"
	"oast/floor"
)

// Money comes from outside and goes out.
func TestPayAndDraw(t *testing.T) {
	f := after(t, `
		pay 1 1000000000000: ok
		pay 1000 1: ok
		pay 2 999999999999: ok
		pay 2 1: ok
		pay 3 5: ok
		money 1: money 1000000000000 0
		money 1000: money 1 0
		audit: audit 2000000000006 0
	`)
	wantRefused(t, f, api.ErrArg,
		"pay 0 1", "pay -1 1", "pay 1001 1", "pay 1000000000000 1", "pay 3 0", "pay 3 -1", "pay 1 1", "pay 2 1000000000000", "pay 3 999999999996", "pay 3 1000000000000",
		"draw 0 1", "draw -1 1", "draw 1001 1", "draw 3 0", "draw 3 -1", "draw 0 0",
		"money 0", "money -1", "money 1001", "money 1000000000000",
	)
	wantRefused(t, f, api.ErrFunds, "draw 3 6", "draw 4 1", "draw 3 1000000000000", "draw 1000 2")
	play(t, f, `
		draw 3 2: ok
		draw 3 3: ok
		draw 3 1: error 9
		draw 1 1000000000000: ok
		pay 1 1: ok
		audit: audit 1000000000002 0
	`)
	wantMoney(t, f, 1, 1000000000000, 0)
	if f.Total() != 1000000000002 {
		t.Errorf("Total: %d", f.Total())
	}
}

// A member gets more than 10^12 by trades, but then not from outside.
func TestMoreMoneyThanFromOutside(t *testing.T) {
	f := after(t, `
		pay 1 1000000000000: ok
		pay 2 1000000: ok
		enter 1 1 1 1: ok
		grade 1 1: ok
		sell 1 1 1000000 1 1: ok 1
		buy 1 2 0 1 2: ok 2 1000000 1
		money 1: money 1000001000000 0
		pay 1 1: error 1
		audit: audit 1000001000000 1
	`)
	wantMoney(t, f, 1000001000000, 0)
}

// What buying orders and bids bind cannot be drawn, nor be bound again, on any board or in any auction.
func TestBoundMoney(t *testing.T) {
	f := after(t, `
		pay 1 100: ok
		buy 1 1 7 4 1: ok 1
		money 1: money 100 28
		buy 2 1 5 2 4: ok 1
		money 1: money 100 38
		bid 1 1 10 2: ok
		money 1: money 100 58
		bid 20 1 1 12: ok
		money 1: money 100 70
		buy 3 1 31 1 1: error 9
		buy 3 1 15 2 1: ok 1
		money 1: money 100 100
	`)
	wantBound(t, f, 100)
	wantRefused(t, f, api.ErrFunds, "draw 1 1", "buy 3 1 1 1 1", "buy 1 1 1 1 2", "buy 4 1 1 1 3", "buy 1 1 1 1 4", "bid 5 1 1 1", "bid 20 1 1 1")
	play(t, f, `
		cancel 2 1 1: ok
		money 1: money 100 90
		draw 1 11: error 9
		draw 1 10: ok
		money 1: money 90 90
		pay 1 3: ok
		bid 20 1 1 4: error 9
		bid 20 1 1 3: ok
		draw 1 1: error 9
		buy 1 1 0 1 2: ok 2
		buy 1 1 0 1 3: ok 3
	`)
	wantBound(t, f, 93, 0)
}

// P10.2: Money.
func TestMoney(t *testing.T) {
	f := after(t, `
		pay 1 10: ok
		pay 1000 20: ok
		buy 1 1000 2 3 1: ok 1
	`)
	want := map[int][2]int64{-1 << 63: {}, -1: {}, 0: {}, 1: {10, 0}, 2: {}, 1000: {20, 6}, 1001: {}, 1<<63 - 1: {}}
	for member, x := range want {
		if all, bound := f.Money(member); [2]int64{all, bound} != x {
			t.Errorf("Money(%d): %d, %d, want %v", member, all, bound, x)
		}
	}
}

// The codes of owe.
func TestOwe(t *testing.T) {
	f := after(t, `
		owe 1 2 1000000: ok
		owe 2 1 5: ok
		owe 2 1 6: ok
		owe 1000 1 1: ok
		debt 1 2: debt 1000000
		debt 2 1: debt 11
		debt 1 3: debt 0
		debt 1000 1: debt 1
		debt 1 1000: debt 0
		debt 1 1: debt 0
	`)
	wantRefused(t, f, api.ErrArg,
		"owe 0 1 1", "owe 1 0 1", "owe -1 1 1", "owe 1001 1 1", "owe 1 1001 1", "owe 3 3 1", "owe 1 3 0", "owe 1 3 -1", "owe 1 3 1000001", "owe 1 2 0", "owe 0 0 1",
		"owe 1 2 1000001", "owe 1 3 1000000000000",
		"debt 0 1", "debt 1 0", "debt 1001 1", "debt 1 1001", "debt -1 1", "debt 0 0",
	)
	wantRefused(t, f, api.ErrFull, "owe 1 2 1", "owe 1 2 1000000", "owe 2 1 999990")
	play(t, f, `
		owe 2 1 999989: ok
		debt 2 1: debt 1000000
	`)
}

// At most 32 members have debts.
func TestPartiesOfDebts(t *testing.T) {
	f := after(t, `
		owe 900 1 1: ok
		pay 900 1000: ok
	`)
	for _, line := range repeat("owe %d 900 1", 2, 30) {
		wantAnswer(t, f, line, "ok")
	}
	wantRefused(t, f, api.ErrFull, "owe 31 32 1", "owe 1000 999 5")
	wantAnswer(t, f, "owe 900 999 7", "ok") // the 32nd
	wantRefused(t, f, api.ErrFull, "owe 31 1 1", "owe 1 31 1", "owe 31 32 1", "owe 900 31 1")
	wantRefused(t, f, api.ErrArg, "owe 31 31 1", "owe 31 32 0")
	play(t, f, `
		owe 999 1 3: ok
		owe 30 29 1: ok
		owe 1 900 1: ok
	`)
	wantRefused(t, f, api.ErrFunds, "net")
	for _, line := range repeat("pay %d 1000", 1, 30) {
		wantAnswer(t, f, line, "ok")
	}
	play(t, f, `
		net: ok 28
		owe 31 32 1: ok
		debt 900 999: debt 0
	`)
}

// The codes of net. Only what is left of a member's debts needs money.
func TestNetCodes(t *testing.T) {
	f := floor.New()
	wantRefused(t, f, api.ErrState, "net")
	play(t, f, `
		owe 1 2 5: ok
		net: error 9
		pay 1 4: ok
		net: error 9
		pay 1 1: ok
		buy 1 1 1 1 1: ok 1
		net: error 9
		cancel 1 1 1: ok
		bid 1 1 1 1: ok
		net: error 9
		pay 1 1: ok
		money 1: money 6 1
		net: ok 1
		money 1: money 1 1
		money 2: money 5 0
		net: error 5
		debt 1 2: debt 0
	`)
	play(t, f, `
		owe 2 3 5: ok
		owe 3 4 6: ok
		net: error 9
		pay 3 1: ok
		net: ok 2
	`)
	wantMoney(t, f, 1, 0, 0, 6)
	// A ring needs no money and no transfer.
	play(t, f, `
		owe 5 6 9: ok
		owe 6 7 9: ok
		owe 7 5 9: ok
		net: ok 0
		debt 5 6: debt 0
		net: error 5
		audit: audit 7 0
	`)
}

// P10.8: behind a netting each member's money has changed by its position, nobody owes anything, and the boards are as they were.
func TestNettingIsNoTrade(t *testing.T) {
	f := after(t, `
		enter 1 9 1 1: ok
		grade 1 1: ok
		pay 1 50: ok
		pay 2 50: ok
		pay 3 50: ok
		sell 1 1 9 3 1: ok 1
		buy 1 2 8 2 1: ok 2
		bid 1 3 5 1: ok
		owe 1 2 20: ok
		owe 2 3 1: ok
		owe 3 1 4: ok
		owe 900 2 3: ok
		pay 900 3: ok
		net: ok 3
		money 1: money 34 0
		money 2: money 72 16
		money 3: money 47 5
		money 900: money 0 0
		best 1: best 8 2 9 3
		hops 1 1: hops 9 3
		audit: audit 153 9
		net: error 5
	`)
	wantTrades(t, f, 1)
	wantOwners(t, f, "111111111")
	for _, line := range []string{"debt 1 2", "debt 2 3", "debt 3 1", "debt 900 2"} {
		wantAnswer(t, f, line, "debt 0")
	}
}

// The order in which members came to their debts does not matter, but their numbers do.
func TestNetIsByNumbers(t *testing.T) {
	debts := []string{"owe 5 1 4", "owe 30 1 4", "owe 4 1 3", "owe 7 2 8", "owe 9 3 3"}
	for range 30 {
		f := floor.New()
		for _, line := range debts {
			wantAnswer(t, f, line, "ok")
		}
		for _, member := range []int{5, 30, 4, 7, 9} {
			wantAnswer(t, f, fmt.Sprintf("pay %d 8", member), "ok")
		}
		// 7 pays 1 8; 5 pays 2 4; 30 pays 2 4; 4 pays 1 3; 9 pays 3 3.
		wantAnswer(t, f, "net", "ok 5")
		wantMoney(t, f, 11, 8, 3, 5, 4, 0, 0, 0, 5)
		slices.Reverse(debts)
	}
}
