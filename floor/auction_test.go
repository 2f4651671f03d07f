package floor_test

import (
	"fmt"
	"testing"

	"oast/api"
)

// The codes of bid and ask, in their order.
func TestBidCodes(t *testing.T) {
	f := shop(t)
	for _, word := range []string{"bid", "ask"} {
		wantRefused(t, f, api.ErrArg,
			word+" 0 3 5 1", word+" 21 3 5 1", word+" -1 3 5 1", word+" 1000000000000 3 5 1",
			word+" 3 0 5 1", word+" 3 1001 5 1", word+" 3 -1 5 1",
			word+" 3 3 0 1", word+" 3 3 -1 1", word+" 3 3 1000001 1",
			word+" 3 3 5 0", word+" 3 3 5 -1", word+" 3 3 5 1000000001", word+" 3 3 1000001 1000000000",
		)
	}
	wantRefused(t, f, api.ErrFunds,
		"bid 3 3 1001 1", "bid 3 3 1 1001", "bid 3 3 1000000 1000000000", "bid 3 1 1 1", "bid 3 1000 1 1",
		"ask 3 1 5 11", "ask 3 3 5 1", "ask 3 1 1000000 1000000000", "ask 5 1 5 1", "ask 3 1000 5 1",
	)
	play(t, f, `
		bid 3 3 10 60: ok
		bid 4 3 50 8: ok
		bid 20 3 1 1: error 9
		ask 3 1 5 10: ok
		ask 3 1 1 1: error 9
		ask 4 1 5 10: ok
		money 3: money 1000 1000
		hops 1 3: hops 10 10
	`)
}

// An auction has at most 500 bids; that comes before that there is no money.
func TestFullAuction(t *testing.T) {
	f := shop(t)
	wantAnswer(t, f, "ask 3 1 1 1", "ok")
	for range 499 {
		wantAnswer(t, f, "bid 3 3 2 1", "ok")
	}
	wantRefused(t, f, api.ErrFull, "bid 3 3 2 1", "ask 3 1 1 1", "bid 3 3 1000 1", "ask 3 5 1 1")
	wantRefused(t, f, api.ErrArg, "bid 3 0 2 1", "bid 3 3 0 1", "ask 3 3 1 0", "bid 0 3 2 1")
	play(t, f, `
		bid 4 3 2 1: ok
		money 3: money 1000 1000
		call 3 1: ok 2 1 1
		money 3: money 998 2
	`)
	for range 499 {
		wantAnswer(t, f, "bid 3 4 1 1", "ok")
	}
	play(t, f, `
		bid 3 4 502 1: error 9
		bid 3 4 501 1: ok
		bid 3 4 1 1: error 6
	`)
}

// The codes of call. Without a price the list stays.
func TestCallCodes(t *testing.T) {
	f := shop(t)
	wantRefused(t, f, api.ErrArg, "call 0 1", "call 21 1", "call -1 1", "call 3 0", "call 3 3", "call 3 -1", "call 3 1000000000000", "call 0 0")
	wantRefused(t, f, api.ErrPrice, "call 3 1", "call 3 2", "call 20 1")
	play(t, f, `
		bid 3 3 10 5: ok
		call 3 1: error 30
		ask 3 1 11 5: ok
		call 3 2: error 30
		call 3 3: error 1
		money 3: money 1000 50
		hops 1 3: hops 10 5
		last 3: last 0 1
		ask 3 2 10 4: ok
		call 3 2: ok 10 4 1
		call 3 2: error 30
		last 3: last 0 10
		money 3: money 960 0
		hops 1 3: hops 10 0
	`)
	wantTrades(t, f, 3, [2]int64{10, 4})
}

// The first example of chapter 3: the buyer at 52 and the sellers at 49 and 51 are two pairs.
func TestCall(t *testing.T) {
	f := shop(t)
	play(t, f, `
		bid 3 3 52 10: ok
		bid 3 4 50 5: ok
		ask 3 1 49 8: ok
		ask 3 2 51 4: ok
		money 3: money 1000 520
		money 4: money 1000 250
		hops 2 3: hops 10 4
		call 3 1: ok 51 10 2
		money 4: money 1000 0
		hops 1 3: hops 2 0
		hops 2 3: hops 8 0
		last 3: last 0 51
		best 3: best 0 0 0 0
	`)
	wantTrades(t, f, 3, [2]int64{51, 8}, [2]int64{51, 2})
	wantOwners(t, f, "3333333311"+"3322222222")
	wantMoney(t, f, 408, 102, 490, 1000)
}

// The reference price is 1 at first, then that of the last auction of the grade.
func TestReferencePrice(t *testing.T) {
	f := shop(t)
	play(t, f, `
		bid 3 3 10 1: ok
		ask 3 1 8 1: ok
		call 3 1: ok 8 1 1
		bid 3 3 30 1: ok
		ask 3 1 20 1: ok
		call 3 1: ok 20 1 1
		bid 3 3 30 1: ok
		ask 3 1 5 1: ok
		call 3 1: ok 20 1 1
		bid 3 3 15 1: ok
		ask 3 1 5 1: ok
		call 3 1: ok 15 1 1
		bid 4 3 15 1: ok
		ask 4 1 5 1: ok
		call 4 1: ok 5 1 1
		last 3: last 0 15
		last 4: last 0 5
		last 5: last 0 1
		sell 3 1 99 1 1: ok 1
		buy 3 3 99 1 1: ok 2 99 1
		last 3: last 99 15
	`)
}

// The rules share what is left at one price among those who have it.
func TestCallRules(t *testing.T) {
	for rule, want := range map[int]string{1: "ok 20 4 1", 2: "ok 20 4 2"} {
		f := shop(t)
		play(t, f, `
			ask 3 1 20 4: ok
			bid 3 3 20 6: ok
			bid 3 4 20 2: ok
		`)
		wantAnswer(t, f, fmt.Sprint("call 3 ", rule), want)
		wantMoney(t, f, 80, 0, []int64{0, 920, 940}[rule], []int64{0, 1000, 980}[rule])
		wantOwners(t, f, []string{"", "3333111111", "3334111111"}[rule])
	}
}

// Pairs are made in the order of the list, whatever the prices are, of those who have a fill.
func TestPairs(t *testing.T) {
	f := shop(t)
	play(t, f, `
		bid 3 4 20 3: ok
		ask 3 2 19 2: ok
		bid 3 5 1 1: error 9
		bid 3 3 5 1: ok
		bid 3 3 30 4: ok
		ask 3 1 40 1: ok
		ask 3 1 10 2: ok
		bid 3 4 25 1: ok
		ask 3 2 11 3: ok
		ask 3 1 12 1: ok
		call 3 1: ok 19 8 5
	`)
	// The buyers are 4 with 3, 3 with 4, 4 with 1, the sellers 2 with 2, 1 with 2, 2 with 3, 1 with 1.
	wantTrades(t, f, 3, [2]int64{19, 2}, [2]int64{19, 1}, [2]int64{19, 1}, [2]int64{19, 3}, [2]int64{19, 1})
	wantOwners(t, f, "4341111111"+"4433322222")
	wantMoney(t, f, 57, 95, 924, 924)
}

// A pair of one member is a trade, but moves nothing.
func TestPairOfOneMember(t *testing.T) {
	f := shop(t)
	play(t, f, `
		pay 1 500: ok
		bid 3 1 20 5: ok
		ask 3 1 20 3: ok
		ask 3 2 20 4: ok
		bid 3 3 20 2: ok
		money 1: money 500 100
		hops 1 3: hops 10 3
		call 3 1: ok 20 7 3
		money 1: money 460 0
		hops 1 3: hops 12 0
		audit: audit 2500 30
	`)
	wantTrades(t, f, 3, [2]int64{20, 3}, [2]int64{20, 2}, [2]int64{20, 2})
	wantOwners(t, f, "1111111111"+"1133222222")
	wantMoney(t, f, 460, 80, 960, 1000)
}

// Who buys first and then sells in one auction sells the least numbers that it has then.
func TestPairsAreSettledInOrder(t *testing.T) {
	f := shop(t)
	play(t, f, `
		move 1 1 1 5: ok
		pay 2 100: ok
		bid 3 2 20 3: ok
		ask 3 5 20 1: ok
		ask 3 1 20 2: ok
		ask 3 2 20 2: ok
		bid 3 3 20 2: ok
		call 3 1: ok 20 5 3
	`)
	wantOwners(t, f, "3321111111"+"2222222222")
	play(t, f, `
		bid 3 4 20 1: ok
		ask 3 2 20 1: ok
		bid 3 2 20 1: ok
		ask 3 1 20 1: ok
		call 3 1: ok 20 2 2
	`)
	wantOwners(t, f, "3342111111"+"2222222222")
}

// Auctions and boards bind the same money and pockets, and an auction sets free only its own.
func TestAuctionNextToBoard(t *testing.T) {
	f := shop(t)
	play(t, f, `
		sell 3 1 60 6 1: ok 1
		ask 3 1 30 4: ok
		buy 3 3 40 5 1: ok 2
		bid 3 3 50 4: ok
		bid 4 3 10 1: ok
		money 3: money 1000 410
		hops 1 3: hops 10 10
		call 3 1: ok 30 4 1
		money 3: money 880 210
		hops 1 3: hops 6 6
		best 3: best 40 5 60 6
		last 3: last 0 30
		move 5 1 1 2: error 9
		cancel 3 1 1: ok
		move 5 1 1 2: ok
	`)
}
