package bid_test

import (
	"math"
	"slices"
	"testing"

	"oast/api"
	"oast/bid"
)

// wrongAuctions are auctions that are not valid, each with the error that Check returns.
func wrongAuctions() map[string]wrongAuction {
	many := func(n int) []bid.Offer { return slices.Repeat([]bid.Offer{offer(1, 0)}, n) }
	l := map[string]wrongAuction{
		"no lots":                   {bid.Auction{}, api.ErrArg},
		"no lots, a reserve":        {bid.Auction{Reserve: []int64{0}}, api.ErrArg},
		"too many lots":             {bid.Auction{Goods: 11, Reserve: make([]int64, 11)}, api.ErrArg},
		"too many lots, no reserve": {bid.Auction{Goods: 11}, api.ErrArg},
		"lots below 0":              {bid.Auction{Goods: -1}, api.ErrArg},
		"the most lots there are":   {bid.Auction{Goods: math.MaxInt}, api.ErrArg},
		"the fewest lots there are": {bid.Auction{Goods: math.MinInt}, api.ErrArg},
		"no reserve":                {bid.Auction{Goods: 1}, api.ErrShape},
		"a reserve too few":         {bid.Auction{Goods: 3, Reserve: []int64{0, 0}}, api.ErrShape},
		"a reserve too many":        {bid.Auction{Goods: 1, Reserve: []int64{0, -1}}, api.ErrShape},
		"too many bidders":          {bid.Auction{Goods: 1, Reserve: []int64{0}, Bidders: make([][]bid.Offer, 13)}, api.ErrLong},
		"too many offers":           {with(trio(), 2, many(65)...), api.ErrLong},
		"no lot":                    {with(trio(), 1, bid.Offer{Worth: 5}), api.ErrBid},
		"a lot that is not there":   {with(trio(), 0, offer(5, 2)), api.ErrBid},
		"a lot there and one not":   {with(trio(), 0, offer(5, 0, 2)), api.ErrBid},
		"a lot far away":            {with(trio(), 0, offer(5, 31)), api.ErrBid},
		"all bits":                  {with(trio(), 0, bid.Offer{Lots: math.MaxUint32, Worth: 5}), api.ErrBid},
		"the last offer is wrong":   {with(trio(), 2, append(many(63), offer(-1, 0))...), api.ErrBid},
		"an eleventh lot":           {bid.Auction{Goods: 10, Reserve: make([]int64, 10), Bidders: [][]bid.Offer{{offer(5, 10)}}}, api.ErrBid},
		"reserve before bidders":    {bid.Auction{Goods: 1, Reserve: []int64{-1}, Bidders: make([][]bid.Offer, 13)}, api.ErrArg},
		"length before offers":      {bid.Auction{Goods: 1, Reserve: []int64{0}, Bidders: [][]bid.Offer{{offer(5, 7)}, many(65)}}, api.ErrLong},
		"number before offers":      {bid.Auction{Goods: 1, Reserve: []int64{0}, Bidders: slices.Repeat([][]bid.Offer{{offer(5, 7)}}, 13)}, api.ErrLong},
	}
	for _, x := range notWorths {
		l["a reserve of "+name(x)] = wrongAuction{bid.Auction{Goods: 2, Reserve: []int64{0, x}}, api.ErrArg}
		l["a worth of "+name(x)] = wrongAuction{with(trio(), 1, offer(8, 1), offer(x, 1)), api.ErrBid}
	}
	return l
}

type wrongAuction struct {
	a    bid.Auction
	want api.Errno
}

// P4.1: Check names what is wrong, and the others return it first.
func TestWrongAuctions(t *testing.T) {
	for what, w := range wrongAuctions() {
		wantCheck(t, what, w.a, w.want)
		if got, e := bid.Solve(w.a); e != w.want || !same(got, bid.Award{}) {
			t.Errorf("%s: Solve: %v, error %d, want error %d", what, got, e, w.want)
		}
		for _, bidder := range []int{0, -1, 99} {
			wantWithout(t, w.a, bidder, 0, w.want)
			wantGain(t, w.a, []bid.Offer{offer(1, 0)}, bidder, 0, w.want)
			wantGain(t, w.a, make([]bid.Offer, 65), bidder, 0, w.want)
		}
		if x, e := bid.Revenue(w.a); x != 0 || e != w.want {
			t.Errorf("%s: Revenue: %d, error %d, want error %d", what, x, e, w.want)
		}
		for n := range 4 {
			wantTotal(t, w.a, slices.Repeat([]int{-1}, n), 0, w.want)
			wantBlocks(t, w.a, nothing(n))
		}
		wantTotal(t, w.a, []int{5, -7}, 0, w.want)
	}
}

// P4.1: the ends of all ranges are valid.
func TestValidAuctions(t *testing.T) {
	full := slices.Repeat([]bid.Offer{offer(api.MaxWorth, 0, 9), offer(0, 9)}, 32)
	wantCheck(t, "a full auction", bid.Auction{Goods: 10, Reserve: slices.Repeat([]int64{api.MaxWorth}, 10), Bidders: slices.Repeat([][]bid.Offer{full}, 12)}, api.OK)
	wantCheck(t, "no bidders", bid.Auction{Goods: 1, Reserve: []int64{0}}, api.OK)
	wantCheck(t, "no offers", bid.Auction{Goods: 1, Reserve: []int64{0}, Bidders: make([][]bid.Offer, 12)}, api.OK)
	wantCheck(t, "equal offers", with(trio(), 0, offer(10, 0), offer(10, 0), offer(0, 0)), api.OK)
}

// P4.2: the chapter's examples, and awards and payments that are easily seen.
func TestBestAwards(t *testing.T) {
	wantAward(t, trio(), bid.Award{Choices: []int{0, 0, -1}, Total: 18, Pays: []int64{7, 5, 0}})
	wantAward(t, single(5, 7, 6), bid.Award{Choices: []int{0, -1}, Total: 7, Pays: []int64{6, 0}})
	wantAward(t, single(5, 7), bid.Award{Choices: []int{0}, Total: 7, Pays: []int64{5}})
	wantAward(t, single(5, 4, 3), bid.Award{Choices: []int{-1, -1}, Total: 5, Pays: []int64{0, 0}})
	wantAward(t, single(5), bid.Award{Total: 5})
	wantAward(t, single(api.MaxWorth, api.MaxWorth), bid.Award{Choices: []int{-1}, Total: api.MaxWorth, Pays: []int64{0}})
	wantAward(t, single(0, api.MaxWorth), bid.Award{Choices: []int{0}, Total: api.MaxWorth, Pays: []int64{0}})
	three := bid.Auction{Goods: 3, Reserve: []int64{1, 2, 4}, Bidders: [][]bid.Offer{{offer(3, 0), offer(9, 0, 1)}, {offer(5, 1), offer(6, 2)}}}
	wantAward(t, three, bid.Award{Choices: []int{1, 1}, Total: 15, Pays: []int64{10 - 6, 13 - 9}})
	large := bid.Auction{Goods: 2, Reserve: []int64{api.MaxWorth, 0}, Bidders: [][]bid.Offer{{offer(api.MaxWorth, 1)}}}
	wantAward(t, large, bid.Award{Choices: []int{0}, Total: 2 * api.MaxWorth, Pays: []int64{0}})
}

// P4.2: of equally good awards the one with the least choices is taken, no offer before the first one.
func TestEqualAwards(t *testing.T) {
	wantAward(t, single(0, 4, 4, 4), bid.Award{Choices: []int{-1, -1, 0}, Total: 4, Pays: []int64{0, 0, 4}})
	wantAward(t, single(4, 4), bid.Award{Choices: []int{-1}, Total: 4, Pays: []int64{0}})
	wantAward(t, single(0, 0), bid.Award{Choices: []int{-1}, Pays: []int64{0}})
	twice := bid.Auction{Goods: 2, Reserve: []int64{0, 0}, Bidders: [][]bid.Offer{{offer(1, 0), offer(7, 1), offer(7, 0), offer(7, 0, 1)}, {offer(1, 0)}}}
	wantAward(t, twice, bid.Award{Choices: []int{1, 0}, Total: 8, Pays: []int64{0, 0}})
	later := bid.Auction{Goods: 2, Reserve: []int64{0, 0}, Bidders: [][]bid.Offer{{offer(6, 0)}, {offer(3, 0), offer(3, 1), offer(6, 1)}, {offer(9, 0)}}}
	wantAward(t, later, bid.Award{Choices: []int{-1, 2, 0}, Total: 15, Pays: []int64{0, 0, 6}})
}

// P4.2: Total looks at the number of choices, then at each of them, then at the lots.
func TestTotals(t *testing.T) {
	a := with(trio(), 0, offer(10, 0), offer(3, 1))
	a.Reserve = []int64{20, 40}
	wantTotal(t, a, []int{-1, -1, -1}, 60, api.OK)
	wantTotal(t, a, []int{0, -1, -1}, 50, api.OK)
	wantTotal(t, a, []int{1, -1, -1}, 23, api.OK)
	wantTotal(t, a, []int{0, 0, -1}, 18, api.OK)
	wantTotal(t, a, []int{-1, -1, 0}, 15, api.OK)
	wantTotal(t, a, []int{1, 0, -1}, 0, api.ErrBid)
	wantTotal(t, a, []int{0, -1, 0}, 0, api.ErrBid)
	wantTotal(t, a, []int{0, 0}, 0, api.ErrShape)
	wantTotal(t, a, nil, 0, api.ErrShape)
	wantTotal(t, a, []int{0, 0, -1, -1}, 0, api.ErrShape)
	wantTotal(t, a, []int{-2, 0}, 0, api.ErrShape)
	for _, c := range []int{-2, 2, math.MaxInt, math.MinInt} {
		wantTotal(t, a, []int{c, 0, -1}, 0, api.ErrNone)
		wantTotal(t, a, []int{1, 0, c}, 0, api.ErrNone)
	}
	wantTotal(t, a, []int{-1, 1, -1}, 0, api.ErrNone)
	wantTotal(t, single(7), nil, 7, api.OK)
}

// P4.3: without a bidder, and for one that is not there.
func TestWithout(t *testing.T) {
	for bidder, want := range []int64{15, 15, 18} {
		wantWithout(t, trio(), bidder, want, api.OK)
	}
	for _, bidder := range notNumbers {
		wantWithout(t, trio(), bidder, 0, api.ErrNone)
	}
	wantWithout(t, single(5), 0, 0, api.ErrNone)
	wantWithout(t, single(5, 9), 0, 5, api.OK)
	wantRevenue(t, trio(), 12)
	wantRevenue(t, single(5), 0)
	wantRevenue(t, single(5, 4), 0)
	wantRevenue(t, single(5, 7), 5)
}

// P4.3: what is gained is what the lots are worth in truth, less the payment.
func TestGains(t *testing.T) {
	truth := []bid.Offer{offer(9, 0), offer(11, 0), offer(10, 0), offer(50, 1), offer(60, 0, 1)}
	wantGain(t, trio(), truth, 0, 11-7, api.OK)
	wantGain(t, trio(), truth[:1], 0, 2, api.OK)
	wantGain(t, trio(), truth[3:], 0, -7, api.OK)
	wantGain(t, trio(), nil, 0, -7, api.OK)
	wantGain(t, trio(), truth, 1, 50-5, api.OK)
	wantGain(t, trio(), truth, 2, 0, api.OK)
	both := with(trio(), 2, offer(30, 0, 1))
	wantGain(t, both, truth, 2, 60-18, api.OK)
	wantGain(t, both, truth[:4], 2, 50-18, api.OK)
	wantGain(t, both, truth, 0, 0, api.OK)
}

// P4.3: the bidder is looked at before the truth, and its length before its offers.
func TestWrongGains(t *testing.T) {
	long := make([]bid.Offer, 65)
	for _, bidder := range notNumbers {
		wantGain(t, trio(), nil, bidder, 0, api.ErrNone)
		wantGain(t, trio(), long, bidder, 0, api.ErrNone)
	}
	wantGain(t, trio(), long, 0, 0, api.ErrLong)
	wantGain(t, trio(), slices.Repeat([]bid.Offer{offer(8, 0)}, 64), 0, 1, api.OK)
	for _, o := range []bid.Offer{{}, {Worth: 5}, offer(5, 2), offer(-1, 0), offer(api.MaxWorth+1, 0)} {
		wantGain(t, trio(), []bid.Offer{offer(1, 0), o}, 0, 0, api.ErrBid)
		wantGain(t, trio(), []bid.Offer{o}, 2, 0, api.ErrBid)
	}
}

// P4.4: the chapter's example, and the order of the sets that block.
func TestBlocks(t *testing.T) {
	w := bid.Award{Choices: []int{0, 0, -1}, Total: 18, Pays: []int64{7, 5, 0}}
	wantBlocks(t, trio(), w, 2)
	w.Total = -99
	wantBlocks(t, trio(), w, 2)
	w.Pays = []int64{8, 7, 0}
	wantBlocks(t, trio(), w)
	wantBlocks(t, trio(), nothing(3), 0)
	wantBlocks(t, with(trio(), 0), nothing(3), 1)
	wantBlocks(t, bid.Auction{Goods: 1, Reserve: []int64{3}}, bid.Award{})
	wantBlocks(t, single(3, 4), bid.Award{Choices: []int{-1}, Pays: []int64{0}}, 0)
	wantBlocks(t, single(4, 4), bid.Award{Choices: []int{-1}, Pays: []int64{0}})
	// Bidder 0 has both lots and pays 9; only 1 and 2 together offer more than that.
	pair := bid.Auction{Goods: 2, Reserve: []int64{1, 1}, Bidders: [][]bid.Offer{{offer(30, 0, 1)}, {offer(6, 0)}, {offer(5, 1)}, {offer(90, 1)}}}
	w = bid.Award{Choices: []int{0, -1, -1, -1}, Pays: []int64{9, 0, 0, 0}}
	wantBlocks(t, with(pair, 3), w, 1, 2)
	wantBlocks(t, pair, w, 1, 2)
	wantBlocks(t, with(pair, 2), w, 3)
	w.Pays[0] = 11
	wantBlocks(t, with(pair, 3), w)
	w.Pays[3] = 200 // and gets nothing for it
	wantBlocks(t, pair, w, 3)
}

// P4.4: an award that does not fit is not blocked.
func TestBlocksWithoutAnAward(t *testing.T) {
	for _, choices := range [][]int{nil, {-1, -1}, {-1, -1, -1, -1}, {-2, -1, -1}, {-1, 1, -1}, {0, -1, 0}} {
		wantBlocks(t, trio(), bid.Award{Choices: choices, Pays: make([]int64, 3)})
	}
	for _, n := range []int{0, 2, 4} {
		wantBlocks(t, trio(), bid.Award{Choices: []int{-1, -1, -1}, Pays: make([]int64, n)})
	}
	for _, x := range notWorths {
		wantBlocks(t, trio(), bid.Award{Choices: []int{-1, -1, -1}, Pays: []int64{0, 0, x}})
	}
	wantBlocks(t, trio(), bid.Award{Choices: []int{-1, -1, -1}, Pays: []int64{0, api.MaxWorth, 0}}, 1)
}
