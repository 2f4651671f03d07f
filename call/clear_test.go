package call_test

import (
	"fmt"
	"math"
	"math/big"
	"math/rand"
	"slices"
	"testing"

	"oast/api"
	"oast/call"
)

// P3.4: Clear of the chapter's example, by each rule.
func TestClearExample(t *testing.T) {
	for _, rule := range rules {
		for _, reference := range []int64{1, 60, api.MaxPrice} {
			r, e := call.Clear(hops(), reference, rule)
			wantResult(t, "Clear", r, e, call.Result{Price: 51, Volume: 10, Surplus: -2, Fills: []int64{10, 0, 8, 2}})
		}
	}
	r, e := call.Clear([]call.Bid{buy(3, 10), sell(3, 8)}, 9, call.ByTime)
	wantResult(t, "Clear", r, e, call.Result{Price: 9, Volume: 3, Fills: []int64{3, 3}})
}

// P3.4: the longer side is served by its prices; where what is left does not suffice, it is shared, and worse prices get 0.
func TestClearShares(t *testing.T) {
	buyers := []call.Bid{buy(4, 20), buy(3, 30), buy(6, 25), buy(2, 25), buy(4, 25), buy(1, 30), sell(10, 5)}
	sellers := []call.Bid{sell(4, 20), sell(3, 10), sell(6, 15), sell(2, 15), sell(4, 15), sell(1, 10), buy(10, 40)}
	for _, l := range [][]call.Bid{buyers, sellers} {
		// 4 go to the best price; 6 are left for 6, 2 and 4 of the next one.
		r, e := call.ClearAt(l, 20, call.ByTime)
		surplus := int64(10)
		if l[0].Side == api.Sell {
			surplus = -10
		}
		wantResult(t, "by time", r, e, call.Result{Price: 20, Volume: 10, Surplus: surplus, Fills: []int64{0, 3, 6, 0, 0, 1, 10}})
		r, e = call.ClearAt(l, 20, call.ByShare)
		wantResult(t, "by share", r, e, call.Result{Price: 20, Volume: 10, Surplus: surplus, Fills: []int64{0, 3, 3, 1, 2, 1, 10}})
	}
}

// P3.4: a price that uses up the volume leaves nothing to the next one.
func TestClearWholePrice(t *testing.T) {
	l := []call.Bid{buy(4, 20), buy(3, 30), buy(2, 30), sell(5, 5)}
	for _, rule := range rules {
		r, e := call.ClearAt(l, 6, rule)
		wantResult(t, "ClearAt", r, e, call.Result{Price: 6, Volume: 5, Surplus: 4, Fills: []int64{0, 3, 2, 5}})
	}
}

// P3.4: by time, the bids of one price are served in the order of their numbers, the last one in part.
func TestClearByTime(t *testing.T) {
	l := []call.Bid{sell(5, 9), buy(7, 9), sell(4, 9), sell(5, 9)}
	r, e := call.Clear(l, 1, call.ByTime)
	wantResult(t, "Clear", r, e, call.Result{Price: 9, Volume: 7, Surplus: -7, Fills: []int64{5, 7, 2, 0}})
}

// P3.4: by share, what the rounding leaves goes to the greatest remainders, of equal ones to the lesser numbers.
func TestClearByShare(t *testing.T) {
	l := []call.Bid{sell(5, 9), buy(7, 9), sell(4, 9), sell(5, 9)}
	// 7 times 5, 4, 5 by 14: 2 and 7, 2 and 0, 2 and 7.
	r, e := call.Clear(l, 1, call.ByShare)
	wantResult(t, "Clear", r, e, call.Result{Price: 9, Volume: 7, Surplus: -7, Fills: []int64{3, 7, 2, 2}})
}

// P3.4: shares of the greatest quantities, whose products are beyond 64 bits.
func TestClearMost(t *testing.T) {
	l := make([]call.Bid, api.MaxItems)
	for i := range l {
		l[i] = buy(api.MaxQty-int64(i%3), 5)
		if i%4 == 3 {
			l[i] = sell(api.MaxQty, 5)
		}
	}
	r, e := call.Clear(l, 1, call.ByShare)
	if e != api.OK || r.Price != 5 || r.Volume != api.MaxItems/4*api.MaxQty {
		t.Fatalf("Clear: %d, %d, error %d", r.Price, r.Volume, e)
	}
	var weights []int64
	for _, b := range l {
		if b.Side == api.Buy {
			weights = append(weights, b.Qty)
		}
	}
	want := exactShares(r.Volume, weights)
	for i, b := range l {
		filled := int64(api.MaxQty)
		if b.Side == api.Buy {
			filled, want = want[0], want[1:]
		}
		if r.Fills[i] != filled {
			t.Fatalf("bid %d trades %d, want %d", i, r.Fills[i], filled)
		}
	}
}

// P3.4: ClearAt trades at its price, whatever the price of the auction would be.
func TestClearAt(t *testing.T) {
	for _, x := range []call.Result{
		{Price: 49, Volume: 8, Surplus: 7, Fills: []int64{8, 0, 8, 0}},
		{Price: 50, Volume: 8, Surplus: 7, Fills: []int64{8, 0, 8, 0}},
		{Price: 51, Volume: 10, Surplus: -2, Fills: []int64{10, 0, 8, 2}},
		{Price: 52, Volume: 10, Surplus: -2, Fills: []int64{10, 0, 8, 2}},
	} {
		for _, rule := range rules {
			r, e := call.ClearAt(hops(), x.Price, rule)
			wantResult(t, fmt.Sprint("ClearAt ", x.Price), r, e, x)
		}
	}
}

// P3.4: the errors of Clear and ClearAt: first those of the arguments, then that of the price.
func TestClearErrors(t *testing.T) {
	for _, l := range append(dead(), hops()) {
		for _, rule := range rules {
			for _, price := range notPrices {
				r, e := call.Clear(l, price, rule)
				wantNoResult(t, fmt.Sprint("Clear ", price), r, e, api.ErrArg)
				r, e = call.ClearAt(l, price, rule)
				wantNoResult(t, fmt.Sprint("ClearAt ", price), r, e, api.ErrArg)
			}
		}
		for _, rule := range notRules {
			r, e := call.Clear(l, 50, rule)
			wantNoResult(t, fmt.Sprint("Clear by ", rule), r, e, api.ErrArg)
			r, e = call.ClearAt(l, 50, rule)
			wantNoResult(t, fmt.Sprint("ClearAt by ", rule), r, e, api.ErrArg)
		}
	}
	for _, rule := range rules {
		for _, l := range dead() {
			for _, price := range []int64{1, 10, 11, api.MaxPrice} {
				r, e := call.Clear(l, price, rule)
				wantNoResult(t, "Clear of what cannot trade", r, e, api.ErrPrice)
				r, e = call.ClearAt(l, price, rule)
				wantNoResult(t, "ClearAt of what cannot trade", r, e, api.ErrPrice)
			}
		}
		for _, price := range []int64{1, 48, 53, api.MaxPrice} {
			r, e := call.ClearAt(hops(), price, rule)
			wantNoResult(t, fmt.Sprint("ClearAt ", price), r, e, api.ErrPrice)
		}
	}
}

// P3.5: the gain is the buyers' worth less the sellers', also if it is below 0 or the sums differ.
func TestGain(t *testing.T) {
	wantGain(t, nil, nil, 0, api.OK)
	wantGain(t, nil, []int64{}, 0, api.OK)
	wantGain(t, hops(), []int64{10, 0, 8, 2}, 520-392-102, api.OK)
	wantGain(t, hops(), []int64{0, 0, 0, 0}, 0, api.OK)
	wantGain(t, hops(), []int64{10, 5, 0, 0}, 520+250, api.OK)
	wantGain(t, hops(), []int64{0, 0, 8, 4}, -392-204, api.OK)
	wantGain(t, hops(), []int64{10, 5, 8, 4}, 520+250-392-204, api.OK)
	l, fills := many(api.MaxItems), make([]int64, api.MaxItems)
	for i := range l {
		l[i], fills[i] = buy(api.MaxQty, api.MaxPrice), api.MaxQty
	}
	wantGain(t, l, fills, api.MaxItems*api.MaxPrice*api.MaxQty, api.OK)
	for i := range l {
		l[i].Side = api.Sell
	}
	wantGain(t, l, fills, -api.MaxItems*api.MaxPrice*api.MaxQty, api.OK)
}

// P3.5: fills that are too few, too many, or out of their range.
func TestGainErrors(t *testing.T) {
	wantGain(t, nil, []int64{0}, 0, api.ErrArg)
	for _, fills := range [][]int64{
		nil, {}, {0, 0, 0}, {0, 0, 0, 0, 0}, {11, 0, 0, 0}, {0, 6, 0, 0}, {0, 0, 9, 0}, {0, 0, 0, 5}, {10, 5, 8, 5},
		{-1, 0, 0, 0}, {10, 5, -1, 4}, {10, 5, 8, -1}, {math.MaxInt64, 0, 0, 0}, {0, 0, 0, math.MinInt64},
	} {
		wantGain(t, hops(), fills, 0, api.ErrArg)
	}
	wantGain(t, hops(), make([]int64, api.MaxItems+1), 0, api.ErrArg)
}

// P3.6: Split of the chapter's examples, and of small cases.
func TestSplit(t *testing.T) {
	wantSplit(t, 2, []int64{1, 1, 1}, 1, 1, 0)
	wantSplit(t, 5, []int64{2, 5, 0, 3}, 1, 3, 0, 1)
	wantSplit(t, 3, []int64{1, 1, 1}, 1, 1, 1)
	wantSplit(t, 0, []int64{1, 1, 1}, 0, 0, 0)
	wantSplit(t, 0, []int64{0, 0}, 0, 0)
	wantSplit(t, 0, nil)
	wantSplit(t, 0, []int64{})
	wantSplit(t, 7, []int64{7}, 7)
	wantSplit(t, 4, []int64{7}, 4)
	// 1 times 1, 3, 2 by 6: remainders 1, 3, 2.
	wantSplit(t, 1, []int64{1, 3, 2}, 0, 1, 0)
	// 2 times 1, 3, 2 by 6: remainders 2, 0 (after 1), 4.
	wantSplit(t, 2, []int64{1, 3, 2}, 0, 1, 1)
	// 7 times 5, 9, 5 by 19: 1 and 16, 3 and 6, 1 and 16.
	wantSplit(t, 7, []int64{5, 9, 5}, 2, 3, 2)
	wantSplit(t, 6, []int64{5, 9, 5}, 2, 3, 1)
	wantSplit(t, 1, slices.Repeat([]int64{api.MaxQty}, 3), 1, 0, 0)
}

// P3.6: the errors of Split.
func TestSplitErrors(t *testing.T) {
	wantNoSplit(t, 10, []int64{1, 1, 1}, api.ErrArg)
	wantNoSplit(t, 4, []int64{1, 1, 1}, api.ErrArg)
	wantNoSplit(t, 1, nil, api.ErrArg)
	wantNoSplit(t, 1, []int64{0, 0}, api.ErrArg)
	for _, total := range []int64{-1, math.MinInt64, math.MaxInt64} {
		wantNoSplit(t, total, nil, api.ErrArg)
		wantNoSplit(t, total, []int64{1, 1}, api.ErrArg)
	}
	for _, w := range []int64{-1, api.MaxQty + 1, math.MinInt64, math.MaxInt64} {
		for _, total := range []int64{0, 1, -1} {
			wantNoSplit(t, total, []int64{w, 5}, api.ErrArg)
			wantNoSplit(t, total, []int64{5, w}, api.ErrArg)
			wantNoSplit(t, total, append(make([]int64, api.MaxItems), w), api.ErrLong)
		}
	}
	wantNoSplit(t, 0, make([]int64, api.MaxItems+1), api.ErrLong)
	wantNoSplit(t, -1, make([]int64, api.MaxItems+1), api.ErrLong)
}

// P3.6: Split is exact, also where the products are beyond 64 bits.
func TestSplitExact(t *testing.T) {
	r := rand.New(rand.NewSource(3))
	for _, size := range []int{1, 2, 3, 10, 500, api.MaxItems} {
		for _, most := range []int64{1, 4, 1000, api.MaxQty} {
			weights, all := make([]int64, size), int64(0)
			for i := range weights {
				weights[i] = r.Int63n(most + 1)
				if r.Intn(3) == 0 {
					weights[i] = most
				}
				all += weights[i]
			}
			for _, total := range []int64{0, r.Int63n(all + 1), all - r.Int63n(min(all, 3)+1), all} {
				wantSplit(t, total, weights, exactShares(total, weights)...)
			}
		}
	}
	most := slices.Repeat([]int64{api.MaxQty}, api.MaxItems)
	wantSplit(t, api.MaxItems*api.MaxQty, most, most...)
}

// exactShares is the chapter's Rule ByShare in big numbers: one at a time is given to the greatest remainder.
func exactShares(total int64, weights []int64) []int64 {
	all, left := new(big.Int), total
	for _, w := range weights {
		all.Add(all, big.NewInt(w))
	}
	shares, order := make([]int64, len(weights)), make([]int, len(weights))
	rests := make([]*big.Int, len(weights))
	for i, w := range weights {
		order[i], rests[i] = i, new(big.Int)
		if all.Sign() > 0 {
			part, _ := new(big.Int).DivMod(new(big.Int).Mul(big.NewInt(total), big.NewInt(w)), all, rests[i])
			shares[i] = part.Int64()
		}
		left -= shares[i]
	}
	slices.SortFunc(order, func(i, j int) int {
		if c := rests[j].Cmp(rests[i]); c != 0 {
			return c
		}
		return i - j
	})
	for _, i := range order {
		if left > 0 {
			shares[i]++
			left--
		}
	}
	return shares
}

// R4: arguments are left as they are, what lies beyond their length too, and results share no memory.
func TestMemory(t *testing.T) {
	bids := append(hops(), call.Bid{}, sell(9, 1))
	l := bids[:4]
	r1, e1 := call.Clear(l, 51, call.ByShare)
	r2, e2 := call.Clear(l, 51, call.ByShare)
	if e1 != api.OK || e2 != api.OK {
		t.Fatal(e1, e2)
	}
	clear(r1.Fills)
	wantResult(t, "Clear", r2, e2, call.Result{Price: 51, Volume: 10, Surplus: -2, Fills: []int64{10, 0, 8, 2}})
	wantBest(t, l, 51, 52, 10, api.OK)
	if !slices.Equal(bids, append(hops(), call.Bid{}, sell(9, 1))) {
		t.Errorf("the bids are %v now", bids)
	}
	weights := []int64{3, 3, -1}
	for _, total := range []int64{0, 6} {
		shares, e := call.Split(total, weights[:2])
		if e != api.OK || len(shares) != 2 {
			t.Fatal(shares, e)
		}
		shares[0] = 77
		_ = append(shares, 88)
		if !slices.Equal(weights, []int64{3, 3, -1}) {
			t.Errorf("the weights are %v now", weights)
		}
	}
}
