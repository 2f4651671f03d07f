package bid_test

import (
	"math/rand/v2"
	"slices"
	"testing"

	"oast/api"
	"oast/bid"
)

// The functions of this file follow the chapter's definitions, by trying everything.

// total returns the total of an award, and false if a lot is given twice.
func total(a bid.Auction, choices []int) (int64, bool) {
	var sum int64
	given := make([]bool, a.Goods)
	for bidder, c := range choices {
		if c == -1 {
			continue
		}
		sum += a.Bidders[bidder][c].Worth
		for lot := range given {
			if a.Bidders[bidder][c].Lots>>lot&1 == 1 {
				if given[lot] {
					return 0, false
				}
				given[lot] = true
			}
		}
	}
	for lot, is := range given {
		if !is {
			sum += a.Reserve[lot]
		}
	}
	return sum, true
}

// awards calls yield with all choices of the bidders, the least first.
func awards(a bid.Auction, yield func([]int)) {
	choices := make([]int, len(a.Bidders))
	var choose func(bidder int)
	choose = func(bidder int) {
		if bidder == len(choices) {
			yield(choices)
			return
		}
		for c := -1; c < len(a.Bidders[bidder]); c++ {
			choices[bidder] = c
			choose(bidder + 1)
		}
	}
	choose(0)
}

// best returns the best award, without payments.
func best(a bid.Auction) bid.Award {
	w := bid.Award{Total: -1}
	awards(a, func(choices []int) {
		if x, ok := total(a, choices); ok && x > w.Total {
			w.Choices, w.Total = slices.Clone(choices), x
		}
	})
	return w
}

// solve returns the best award with its payments.
func solve(a bid.Auction) bid.Award {
	w := best(a)
	for bidder, c := range w.Choices {
		own := int64(0)
		if c != -1 {
			own = a.Bidders[bidder][c].Worth
		}
		w.Pays = append(w.Pays, best(with(a, bidder)).Total-(w.Total-own))
	}
	return w
}

// blocks returns the first set of bidders that blocks.
func blocks(a bid.Auction, w bid.Award) []int {
	nobody := alone(a)
	have, _ := total(nobody, slices.Repeat([]int{-1}, len(a.Bidders))) // all reserves
	free := a
	for bidder, c := range w.Choices {
		have += w.Pays[bidder]
		if c != -1 {
			for lot := range free.Goods {
				if a.Bidders[bidder][c].Lots>>lot&1 == 1 {
					have -= a.Reserve[lot]
				}
			}
		}
	}
	for set := 1; set < 1<<len(a.Bidders); set++ {
		var bidders []int
		need := have
		for b := range a.Bidders {
			if set>>b&1 == 1 {
				bidders = append(bidders, b)
				need -= w.Pays[b]
				if c := w.Choices[b]; c != -1 {
					need += a.Bidders[b][c].Worth
				}
			}
		}
		if best(alone(a, bidders...)).Total > need {
			return bidders
		}
	}
	return nil
}

// randomAuction returns an auction with few lots, bidders and offers, of little worth so that many are equal.
func randomAuction(r *rand.Rand, goods, bidders, offers, worth int) bid.Auction {
	a := bid.Auction{Goods: 1 + r.IntN(goods)}
	for range a.Goods {
		a.Reserve = append(a.Reserve, max(0, r.Int64N(int64(worth))-int64(worth)/2))
	}
	for range r.IntN(bidders + 1) {
		a.Bidders = append(a.Bidders, randomOffers(r, a.Goods, offers, worth))
	}
	return a
}

func randomOffers(r *rand.Rand, goods, offers, worth int) []bid.Offer {
	var l []bid.Offer
	for range r.IntN(offers + 1) {
		l = append(l, bid.Offer{Lots: 1 + r.Uint32N(1<<goods-1), Worth: r.Int64N(int64(worth))})
	}
	return l
}

// P4.2, P4.3, P4.4: all results are those of the definitions.
func TestAuctionsAgainstTheDefinitions(t *testing.T) {
	r := rand.New(rand.NewPCG(4, 1))
	for range 1500 {
		a := randomAuction(r, 4, 4, 4, 1+r.IntN(12))
		want := solve(a)
		wantAward(t, a, want)
		wantTotal(t, a, want.Choices, want.Total, api.OK)
		revenue := int64(0)
		for bidder := range a.Bidders {
			wantWithout(t, a, bidder, best(with(a, bidder)).Total, api.OK)
			revenue += want.Pays[bidder]
		}
		wantRevenue(t, a, revenue)
		wantBlocks(t, a, want, blocks(a, want)...)
	}
}

// P4.2, P4.4: every award has its total, and is blocked as the definition says, whatever is paid.
func TestAnyAwardAgainstTheDefinitions(t *testing.T) {
	r := rand.New(rand.NewPCG(4, 2))
	for range 200 {
		a := randomAuction(r, 3, 4, 2, 9)
		awards(a, func(choices []int) {
			x, ok := total(a, choices)
			if !ok {
				wantTotal(t, a, choices, 0, api.ErrBid)
				return
			}
			wantTotal(t, a, choices, x, api.OK)
			w := bid.Award{Choices: slices.Clone(choices), Total: r.Int64N(9)}
			for range choices {
				w.Pays = append(w.Pays, r.Int64N(9))
			}
			wantBlocks(t, a, w, blocks(a, w)...)
		})
	}
}

// P4.2, P4.3, P4.4: a full auction ends soon, and its payments are what the others lose.
func TestFullAuction(t *testing.T) {
	r := rand.New(rand.NewPCG(4, 3))
	a := bid.Auction{Goods: api.MaxGoods, Reserve: slices.Repeat([]int64{3}, api.MaxGoods)}
	for range api.MaxBidders {
		l := make([]bid.Offer, 64)
		for i := range l {
			l[i] = bid.Offer{Lots: 1 << r.IntN(api.MaxGoods), Worth: 900 + r.Int64N(100)}
			l[i].Lots |= 1 << r.IntN(api.MaxGoods)
		}
		a.Bidders = append(a.Bidders, l)
	}
	w, e := bid.Solve(a)
	if e != api.OK {
		t.Fatalf("Solve: error %d", e)
	}
	wantTotal(t, a, w.Choices, w.Total, api.OK)
	for bidder, c := range w.Choices {
		x, _ := bid.Without(a, bidder)
		y, _ := bid.Solve(with(a, bidder))
		if own := worthOf(a, bidder, c); x != y.Total || w.Pays[bidder] != x-(w.Total-own) {
			t.Errorf("without %d: %d, %d, payment %d of %d", bidder, x, y.Total, w.Pays[bidder], own)
		}
	}
	wantBlocks(t, with(alone(a), 11, offer(31, 0, 1, 2, 3, 4, 5, 6, 7, 8, 9)), nothing(12), 11) // the reserves are 30
	wantBlocks(t, with(alone(a), 11, offer(30, 0, 1, 2, 3, 4, 5, 6, 7, 8, 9)), nothing(12))
}

// nothing is the award of as many bidders by which nobody gets or pays anything.
func nothing(bidders int) bid.Award {
	return bid.Award{Choices: slices.Repeat([]int{-1}, bidders), Pays: make([]int64, bidders)}
}

// worthOf returns what a bidder offered for what it gets.
func worthOf(a bid.Auction, bidder, choice int) int64 {
	if choice == -1 {
		return 0
	}
	return a.Bidders[bidder][choice].Worth
}

// content tells whether a buyer is content with a lot, or with no lot (-1).
func content(row, prices []int64, lot int) bool {
	gain := int64(0)
	if lot != -1 {
		gain = row[lot] - prices[lot]
	}
	for other := range row {
		if row[other]-prices[other] > gain {
			return false
		}
	}
	return gain >= 0
}

// balance tells whether the allotment and the prices are one, and if not, which buyer is the first that is not content.
func balance(worth [][]int64, lots []int, prices []int64) (int, bool) {
	for b, lot := range lots {
		if !content(worth[b], prices, lot) {
			return b, false
		}
	}
	for lot, price := range prices {
		if price != 0 && !slices.Contains(lots, lot) {
			return -1, false
		}
	}
	return -1, true
}

// firstBalance returns the first allotment that is a balance with the prices.
func firstBalance(worth [][]int64, prices []int64) []int {
	lots := make([]int, 0, len(worth))
	var choose func() bool
	choose = func() bool {
		if len(lots) == len(worth) {
			_, ok := balance(worth, lots, prices)
			return ok
		}
		for lot := -1; lot < len(prices); lot++ {
			if lot != -1 && slices.Contains(lots, lot) || !content(worth[len(lots)], prices, lot) {
				continue
			}
			lots = append(lots, lot)
			if choose() {
				return true
			}
			lots = lots[:len(lots)-1]
		}
		return false
	}
	if !choose() {
		return nil
	}
	return lots
}

// leastPrices returns what is least at each lot of all prices up to top that are in a balance.
func leastPrices(worth [][]int64, top int64) []int64 {
	least := slices.Repeat([]int64{top + 1}, len(worth[0]))
	prices := make([]int64, len(least))
	var choose func(lot int)
	choose = func(lot int) {
		if lot == len(prices) {
			if firstBalance(worth, prices) != nil {
				for i, p := range prices {
					least[i] = min(least[i], p)
				}
			}
			return
		}
		for p := range top + 1 {
			prices[lot] = p
			choose(lot + 1)
		}
	}
	choose(0)
	return least
}

func randomHall(r *rand.Rand, rows, elements int, worth int64) [][]int64 {
	l := hall(1+r.IntN(rows), 1+r.IntN(elements), 0)
	for _, row := range l {
		for i := range row {
			row[i] = r.Int64N(worth)
		}
	}
	return l
}

// P4.5, P4.9: the least prices and the first allotment are those of the definitions.
func TestHallAgainstTheDefinitions(t *testing.T) {
	r := rand.New(rand.NewPCG(4, 4))
	for range 400 {
		top := 1 + r.Int64N(5)
		worth := randomHall(r, 4, 3, top+1)
		prices := leastPrices(worth, top)
		wantHall(t, worth, firstBalance(worth, prices), prices)
	}
}

// P4.5: where many are equally good, the allotment is the first one.
func TestFirstAllotment(t *testing.T) {
	r := rand.New(rand.NewPCG(4, 5))
	for range 3000 {
		worth := randomHall(r, 7, 7, 1+r.Int64N(4))
		lots, prices, e := bid.Hall(worth)
		if want := firstBalance(worth, prices); e != api.OK || want == nil || !slices.Equal(lots, want) {
			t.Errorf("Hall(%v): %v, %v, error %d, want the lots %v", worth, lots, prices, e, want)
		}
	}
}

// P4.6: Content, Wanted and Crowd are what the definitions say, at any prices; P4.9: where there is no crowd, each eager buyer can have a lot.
func TestContentmentAgainstTheDefinitions(t *testing.T) {
	r := rand.New(rand.NewPCG(4, 6))
	crowds := 0
	for range 4000 {
		top := 1 + r.Int64N(6)
		worth := randomHall(r, 5, 5, top+1)
		prices := make([]int64, len(worth[0]))
		for i := range prices {
			prices[i] = r.Int64N(top + 1)
		}
		var eager [][]int
		for b, row := range worth {
			var wanted []int
			for lot := range row {
				if content(row, prices, lot) {
					wanted = append(wanted, lot)
				}
			}
			wantWanted(t, worth, prices, b, api.OK, wanted...)
			if !content(row, prices, -1) {
				eager = append(eager, wanted)
			}
		}
		if canAll(eager, nil) {
			wantNoCrowd(t, worth, prices)
		} else {
			crowds++
			wantCrowd(t, worth, prices)
		}
		lots := r.Perm(max(len(worth), len(prices)))[:len(worth)]
		for i, lot := range lots {
			if lot >= len(prices) || !content(worth[i], prices, lot) && r.IntN(4) > 0 {
				lots[i] = -1
			}
		}
		buyer, ok := balance(worth, lots, prices)
		wantContent(t, worth, lots, prices, buyer, ok)
	}
	if crowds < 500 || crowds > 3500 {
		t.Errorf("%d of 4000 prices had a crowd", crowds)
	}
}

// canAll tells whether each list can be given a number of its own that is not taken.
func canAll(lists [][]int, taken []int) bool {
	if len(lists) == 0 {
		return true
	}
	for _, x := range lists[0] {
		if !slices.Contains(taken, x) && canAll(lists[1:], append(taken, x)) {
			return true
		}
	}
	return false
}
