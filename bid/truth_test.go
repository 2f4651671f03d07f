package bid_test

import (
	"math/rand/v2"
	"reflect"
	"slices"
	"testing"

	"oast/api"
	"oast/bid"
)

// P4.8: whatever is offered in its stead, the true list gains most; no one pays more than its worth, or less than the reserves.
func TestNoLieHelps(t *testing.T) {
	r := rand.New(rand.NewPCG(4, 9))
	gained := 0
	for range 600 {
		a := randomAuction(r, 4, 4, 4, 2+r.IntN(20))
		for bidder, truth := range a.Bidders {
			honest, e := bid.Gain(a, truth, bidder)
			if e != api.OK || honest < 0 {
				t.Errorf("Gain(%v, the truth, %d): %d, error %d", a, bidder, honest, e)
			}
			for range 10 {
				lie := with(a, bidder, randomOffers(r, a.Goods, 5, 25)...)
				if x, e := bid.Gain(lie, truth, bidder); e != api.OK || x > honest {
					t.Errorf("Gain(%v, %v, %d): %d, error %d, by the truth %d", lie, truth, bidder, x, e, honest)
				}
			}
			gained += int(min(honest, 1))
		}
		wantFairPays(t, a)
	}
	if gained < 200 {
		t.Errorf("only %d bidders gained", gained)
	}
}

func wantFairPays(t *testing.T, a bid.Auction) {
	t.Helper()
	w, _ := bid.Solve(a)
	for bidder, c := range w.Choices {
		var worth, reserve int64
		if c != -1 {
			worth = a.Bidders[bidder][c].Worth
			for lot, x := range a.Reserve {
				reserve += x * int64(a.Bidders[bidder][c].Lots>>lot&1)
			}
		}
		if pays := w.Pays[bidder]; pays > worth || pays < reserve {
			t.Errorf("Solve(%v): %d pays %d for a worth of %d with reserves of %d", a, bidder, pays, worth, reserve)
		}
	}
}

// P4.10: a further bidder never makes the total less.
func TestFurtherBidders(t *testing.T) {
	r := rand.New(rand.NewPCG(4, 10))
	for range 500 {
		a := randomAuction(r, 5, 6, 5, 20)
		few, _ := bid.Solve(a)
		a.Bidders = append(slices.Clone(a.Bidders), randomOffers(r, a.Goods, 5, 20))
		if more, _ := bid.Solve(a); more.Total < few.Total {
			t.Errorf("Solve(%v): total %d, without the last bidder %d", a, more.Total, few.Total)
		}
	}
}

// P4.10: a single lot goes to the same bidder for the same payment by Second.
func TestSecondIsAnAuction(t *testing.T) {
	r := rand.New(rand.NewPCG(4, 11))
	for range 1000 {
		bids := make([]int64, 1+r.IntN(api.MaxBidders))
		for i := range bids {
			bids[i] = r.Int64N(20)
		}
		reserve := r.Int64N(15)
		best, times := slices.Max(bids), 0
		for _, b := range bids {
			if b == best {
				times++
			}
		}
		if times > 1 || best <= reserve {
			continue
		}
		w, _ := bid.Solve(single(reserve, bids...))
		winner := slices.Index(w.Choices, 0)
		wantSecond(t, bids, reserve, winner, w.Pays[winner], api.OK)
	}
}

// P4.9: the least prices are the payments of the auction of the same worths.
func TestHallIsAnAuction(t *testing.T) {
	r := rand.New(rand.NewPCG(4, 12))
	for range 500 {
		worth := randomHall(r, api.MaxBidders, api.MaxGoods, 1+r.Int64N(40))
		a := bid.Auction{Goods: len(worth[0]), Reserve: make([]int64, len(worth[0]))}
		for _, row := range worth {
			var l []bid.Offer
			for lot, w := range row {
				l = append(l, offer(w, lot))
			}
			a.Bidders = append(a.Bidders, l)
		}
		w, _ := bid.Solve(a)
		lots, prices, _ := bid.Hall(worth)
		for buyer, lot := range lots {
			pays := int64(0)
			if lot != -1 {
				pays = prices[lot]
			}
			if pays != w.Pays[buyer] {
				t.Errorf("Hall(%v): buyer %d pays %d, in the auction %d", worth, buyer, pays, w.Pays[buyer])
			}
		}
	}
}

// R4: what is given is not changed, and what lies beyond the length of a list is not read.
func TestArgumentsStay(t *testing.T) {
	a, kept := with(trio(), 0, offer(10, 0), offer(3, 1)), with(trio(), 0, offer(10, 0), offer(3, 1))
	w, _ := bid.Solve(a)
	v := bid.Award{Choices: slices.Clone(w.Choices), Total: w.Total, Pays: slices.Clone(w.Pays)}
	bid.Blocks(a, w)
	bid.Gain(a, a.Bidders[1], 0)
	if !reflect.DeepEqual(a, kept) || !same(w, v) {
		t.Errorf("changed: %v, %v", a, w)
	}
	worth, bids := pair(), []int64{5, 7, 6, 9}
	bid.Hall(worth)
	bid.Crowd(worth, bids[:2])
	wantUniform(t, bids[:3], 2, 5, 1, 2)
	wantSecond(t, bids[:3], 0, 1, 6, api.OK)
	if !reflect.DeepEqual(worth, pair()) || !slices.Equal(bids, []int64{5, 7, 6, 9}) {
		t.Errorf("changed: %v, %v", worth, bids)
	}
}

// R4, R7: each result is new memory, and the same call has the same result.
func TestResultsAreNew(t *testing.T) {
	w, _ := bid.Solve(trio())
	w.Choices[0], w.Pays[0] = 9, 9
	wantAward(t, trio(), bid.Award{Choices: []int{0, 0, -1}, Total: 18, Pays: []int64{7, 5, 0}})
	lots, prices, _ := bid.Hall(pair())
	lots[0], prices[0] = 9, 9
	wantHall(t, pair(), []int{1, 0}, []int64{2, 0})
}
