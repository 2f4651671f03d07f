package floor_test

import (
	"testing"

	"oast/api"
	"oast/floor"
)

// shop is a floor with two sellers of grade 3, one of whom has pockets of grade 4 too, and two buyers.
func shop(t *testing.T) *floor.Floor {
	t.Helper()
	return after(t, `
		enter 1 10 7 1: ok
		enter 11 10 8 2: ok
		enter 21 10 9 1: ok
		grade 7 3: ok
		grade 8 3: ok
		grade 9 4: ok
		pay 3 1000: ok
		pay 4 1000: ok
	`)
}

// The codes of buy and sell, in their order.
func TestOrderCodes(t *testing.T) {
	f := shop(t)
	for _, word := range []string{"buy", "sell"} {
		wantRefused(t, f, api.ErrArg,
			word+" 0 3 5 1 1", word+" 21 3 5 1 1", word+" -1 3 5 1 1", word+" 1000000000000 3 5 1 1",
			word+" 3 0 5 1 1", word+" 3 1001 5 1 1", word+" 3 -1 5 1 1",
			word+" 3 3 -1 1 1", word+" 3 3 1000001 1 1", word+" 3 3 -1 1 2",
			word+" 3 3 5 0 1", word+" 3 3 5 -1 1", word+" 3 3 5 1000000001 1", word+" 3 3 0 0 2",
			word+" 3 3 5 1 0", word+" 3 3 5 1 5", word+" 3 3 5 1 -1",
			word+" 3 3 0 1 1", word+" 3 3 0 1 4", word+" 3 3 0 1 0", word+" 3 3 0 1 5",
			word+" 0 0 0 0 0", word+" 3 3 1000001 1000000000 1",
		)
	}
	wantRefused(t, f, api.ErrFunds,
		"buy 3 3 1001 1 1", "buy 3 3 1 1001 1", "buy 3 3 1000000 1000000000 1", "buy 3 1 1 1 1", "buy 3 3 1 1001 2", "buy 3 3 1 1001 3", "buy 3 3 1 1001 4",
		"sell 3 1 5 11 1", "sell 3 1 5 1000000000 1", "sell 3 3 5 1 1", "sell 3 1 5 11 2", "sell 3 1 5 11 3", "sell 3 1 5 11 4", "sell 3 1 0 11 2", "sell 3 1 0 11 3",
		"sell 5 1 5 1 1", "sell 3 1000 0 1 2",
	)
	play(t, f, `
		sell 3 1 50 4 1: ok 1
		sell 3 2 60 4 4: ok 2
		buy 3 3 40 5 4: ok 3
	`)
	// A post that would trade is refused, but only if it can be paid.
	wantRefused(t, f, api.ErrCross, "buy 3 4 50 1 4", "buy 3 4 60 1 4", "sell 3 2 40 1 4", "sell 3 1 1 6 4", "buy 3 3 50 16 4")
	wantRefused(t, f, api.ErrFunds, "buy 3 4 50 21 4", "sell 3 2 40 7 4", "buy 3 3 50 17 4", "buy 3 3 801 1 3")
	play(t, f, `
		buy 3 4 49 1 4: ok 4
		best 3: best 49 1 50 4
		last 3: last 0 1
	`)
}

// What each force does, and what it leaves bound.
func TestForces(t *testing.T) {
	f := shop(t)
	play(t, f, `
		sell 3 1 50 4 1: ok 1
		sell 3 2 60 4 4: ok 2
		buy 3 3 55 5 2: ok 3 50 4
		money 3: money 800 0
		buy 3 3 60 5 3: ok 4
		money 3: money 800 0
		buy 3 3 60 3 3: ok 5 60 3
		money 3: money 620 0
		buy 3 3 61 2 1: ok 6 60 1
		money 3: money 560 61
		hops 1 3: hops 6 0
		hops 2 3: hops 6 0
		hops 3 3: hops 8 0
		sell 3 1 0 3 2: ok 7 61 1
		hops 1 3: hops 5 0
		sell 3 1 0 3 3: ok 8
		sell 3 1 1 3 2: ok 9
		sell 3 1 1 3 3: ok 10
		hops 1 3: hops 5 0
		buy 3 4 10 2 1: ok 11
		buy 3 3 10 2 1: ok 12
		buy 3 4 9 2 1: ok 13
		sell 3 1 9 5 3: ok 14 10 2 10 2 9 1
		money 4: money 971 9
		money 3: money 479 0
		money 1: money 310 0
		best 3: best 9 1 0 0
		last 3: last 9 1
	`)
	wantTrades(t, f, 3, [2]int64{50, 4}, [2]int64{60, 3}, [2]int64{60, 1}, [2]int64{61, 1}, [2]int64{10, 2}, [2]int64{10, 2}, [2]int64{9, 1})
	wantOwners(t, f, "3333344334"+"3333")
}

// A market order of a buyer binds what its trades cost now, be it little or much; its own orders and those that it cannot fill cost nothing.
func TestMarketOrders(t *testing.T) {
	f := shop(t)
	play(t, f, `
		sell 3 1 50 4 1: ok 1
		sell 3 2 60 4 1: ok 2
		pay 5 260: ok
		buy 3 5 0 6 2: error 9
		buy 3 5 0 5 3: ok 3 50 4 60 1
		money 5: money 0 0
		pay 5 179: ok
		buy 3 5 0 3 3: error 9
		buy 3 5 0 1000000000 2: error 9
		buy 3 5 0 1000000000 3: ok 4
		draw 5 60: ok
		buy 3 5 0 3 2: error 9
		pay 5 61: ok
		buy 3 5 0 1000000000 2: ok 5 60 3
		money 5: money 0 0
		buy 3 5 0 9 2: ok 6
		sell 3 5 70 3 1: ok 7
		sell 3 1 80 2 1: ok 8
		pay 5 79: ok
		buy 3 5 0 2 2: error 9
		hops 5 3: hops 8 3
		buy 3 5 0 1 3: error 9
		buy 3 5 0 5 3: ok 9
		hops 5 3: hops 8 3
		pay 5 1: ok
		buy 3 5 0 1 2: ok 10 80 1
		hops 5 3: hops 9 0
		best 3: best 0 0 80 1
	`)
	wantMoney(t, f, 280, 240, 1000, 1000, 0)
}

// What is bound by resting orders stays out of a market order's reach.
func TestMarketOrdersNextToOthers(t *testing.T) {
	f := shop(t)
	play(t, f, `
		sell 3 1 50 4 1: ok 1
		buy 4 3 100 9 1: ok 1
		buy 3 3 0 3 2: error 9
		buy 3 3 0 2 2: ok 2 50 2
		buy 3 3 0 1 2: error 9
		buy 4 3 0 1 2: ok 2
		sell 4 1 0 9 2: ok 3 100 9
		money 3: money 0 0
		money 1: money 1000 0
	`)
}

// What a member sells is what it has that is not pledged and not bound by another order or bid.
func TestOpenSells(t *testing.T) {
	f := shop(t)
	play(t, f, `
		pledge 10 1 1 3: ok
		hops 1 3: hops 9 0
		sell 3 1 50 4 1: ok 1
		ask 3 1 50 3: ok
		hops 1 3: hops 9 7
		hops 1 4: hops 10 0
		sell 4 1 50 10 1: ok 1
		sell 3 1 60 3 1: error 9
		sell 3 1 0 3 2: error 9
		ask 3 1 60 3: error 9
		sell 3 1 60 2 4: ok 2
		ask 3 1 60 1: error 9
		sell 3 1 60 1 2: error 9
		sell 3 1 0 1 3: error 9
		cancel 3 1 1: ok
		hops 1 3: hops 9 5
		ask 3 1 60 5: error 9
		ask 3 1 60 4: ok
		release 10 1 3: ok
		sell 3 1 60 2 1: error 9
		sell 3 1 60 1 1: ok 3
		hops 1 3: hops 10 10
		enter 31 1 8 1: ok
		sell 3 1 60 1 1: ok 4
		sell 3 2 60 10 1: ok 5
	`)
}

// Whoever meets an order of its own removes it; nothing is bound by it then.
func TestOwnOrders(t *testing.T) {
	f := shop(t)
	play(t, f, `
		sell 3 1 50 4 1: ok 1
		pay 1 200: ok
		buy 3 1 50 4 1: ok 2
		hops 1 3: hops 10 0
		money 1: money 200 200
		best 3: best 50 4 0 0
		buy 3 3 45 2 1: ok 3
		sell 3 1 40 10 1: ok 4 45 2
		money 1: money 290 0
		hops 1 3: hops 8 8
		buy 3 1 41 1 2: ok 5
		hops 1 3: hops 8 0
		sell 3 1 40 8 1: ok 6
		buy 3 1 39 7 1: ok 7
		buy 3 4 39 1 1: ok 8
		sell 3 1 0 1 3: error 9
		sell 4 1 39 10 1: ok 1
		cancel 3 6 1: ok
		sell 3 1 39 7 3: ok 9
		money 1: money 290 273
		sell 3 1 39 1 3: ok 10 39 1
		money 1: money 329 0
	`)
	wantTrades(t, f, 3, [2]int64{45, 2}, [2]int64{39, 1})
}

// The codes of cancel, and what it sets free.
func TestCancel(t *testing.T) {
	f := shop(t)
	play(t, f, `
		buy 3 3 10 5 1: ok 1
		sell 3 1 20 5 1: ok 2
		sell 3 1 10 2 1: ok 3 10 2
		money 3: money 980 30
	`)
	wantRefused(t, f, api.ErrArg, "cancel 0 1 3", "cancel 21 1 3", "cancel -1 1 3")
	wantRefused(t, f, api.ErrNone, "cancel 3 3 1", "cancel 3 4 1", "cancel 3 0 3", "cancel 3 -1 3", "cancel 4 1 3", "cancel 3 1000000000000 3", "cancel 3 9 0")
	wantRefused(t, f, api.ErrOwner, "cancel 3 1 1", "cancel 3 2 3", "cancel 3 1 0", "cancel 3 1 1001", "cancel 3 1 -3")
	play(t, f, `
		cancel 3 1 3: ok
		money 3: money 980 0
		cancel 3 1 3: error 4
		hops 1 3: hops 8 5
		cancel 3 2 1: ok
		hops 1 3: hops 8 0
		best 3: best 0 0 0 0
	`)
}

// A board has at most 4096 orders; that there is no money comes before that it is full.
func TestFullBoard(t *testing.T) {
	f := after(t, `
		pay 1 5000: ok
		enter 1 5 1 2: ok
		grade 1 1: ok
	`)
	for i := range api.MaxOrders {
		if answer := f.Do("buy 1 1 1 1 1"); len(answer) < 4 || answer[:3] != "ok " {
			t.Fatalf("order %d: %s", i+1, answer)
		}
	}
	wantRefused(t, f, api.ErrFull, "buy 1 1 1 1 1", "sell 1 2 1 1 1", "sell 1 2 9 1 4", "sell 1 2 0 1 2", "sell 1 2 1 1 4", "buy 1 3 0 1 2")
	wantRefused(t, f, api.ErrFunds, "buy 1 1 1 905 1", "buy 1 3 1 1 1", "sell 1 2 1 6 1", "sell 1 3 1 1 4")
	play(t, f, `
		money 1: money 5000 4096
		buy 2 1 1 1 1: ok 1
		cancel 1 4000 1: ok
		sell 1 2 1 1 1: ok 4097 1 1
		buy 1 1 1 1 1: ok 4098
		best 1: best 1 4095 0 0
	`)
}

// P10.5: an order that trades at several prices is settled trade by trade, with the pockets of each seller in its turn.
func TestSettledInOrder(t *testing.T) {
	f := shop(t)
	play(t, f, `
		sell 3 2 12 3 1: ok 1
		sell 3 1 11 2 1: ok 2
		sell 3 2 11 1 1: ok 3
		sell 3 1 13 9 1: error 9
		sell 3 1 13 8 1: ok 4
		buy 3 3 13 8 1: ok 5 11 2 11 1 12 3 13 2
		money 3: money 905 0
		money 1: money 48 0
		money 2: money 47 0
		buy 3 4 0 1 2: ok 6 13 1
		sell 3 3 13 8 1: ok 7
		buy 3 4 13 6 1: ok 8 13 5 13 1
	`)
	wantOwners(t, f, "4333444444"+"3333222222")
	wantTrades(t, f, 3, [2]int64{11, 2}, [2]int64{11, 1}, [2]int64{12, 3}, [2]int64{13, 2}, [2]int64{13, 1}, [2]int64{13, 5}, [2]int64{13, 1})
	wantMoney(t, f, 48+6*13, 47, 905+13, 1000-7*13)
}

// The questions of a board.
func TestBoardQuestions(t *testing.T) {
	f := shop(t)
	play(t, f, `
		best 3: best 0 0 0 0
		last 3: last 0 1
		buy 3 3 10 5 1: ok 1
		best 3: best 10 5 0 0
		buy 3 4 10 2 1: ok 2
		buy 3 4 9 2 1: ok 3
		sell 3 1 12 3 1: ok 4
		sell 3 2 13 1 1: ok 5
		best 3: best 10 7 12 3
		best 4: best 0 0 0 0
		last 3: last 0 1
		sell 3 2 9 9 2: ok 6 10 5 10 2 9 2
		best 3: best 0 0 12 3
		last 3: last 9 1
		last 20: last 0 1
	`)
	wantRefused(t, f, api.ErrArg, "best 0", "best 21", "best -1", "last 0", "last 21", "last -1", "best 1000000000000", "last 1000000000000")
}

// P10.2: Trades.
func TestTrades(t *testing.T) {
	f := shop(t)
	play(t, f, `
		sell 3 1 50 4 1: ok 1
		buy 3 3 60 3 1: ok 2 50 3
		bid 3 3 20 2: ok
		ask 3 1 20 2: ok
		call 3 1: ok 20 2 1
		buy 3 3 60 1 1: ok 3 50 1
	`)
	wantTrades(t, f, 3, [2]int64{50, 3}, [2]int64{20, 2}, [2]int64{50, 1})
	for _, grade := range []int{-1 << 63, -1, 0, 1, 4, 20, 21, 1<<63 - 1} {
		if l := f.Trades(grade); len(l) > 0 {
			t.Errorf("Trades(%d): %v", grade, l)
		}
	}
}
