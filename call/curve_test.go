package call_test

import (
	"math"
	"testing"

	"oast/api"
	"oast/call"
)

// wrongBids are not valid, each for one reason.
var wrongBids = []call.Bid{
	{},
	{Side: 0, Price: 5, Qty: 5},
	{Side: -1, Price: 5, Qty: 5},
	{Side: 3, Price: 5, Qty: 5},
	{Side: math.MaxInt, Price: 5, Qty: 5},
	{Side: math.MinInt, Price: 5, Qty: 5},
	buy(5, 0), sell(5, 0), buy(5, -1), sell(5, -1),
	buy(5, api.MaxPrice+1), sell(5, api.MaxPrice+1),
	buy(5, math.MaxInt64), sell(5, math.MinInt64),
	buy(0, 5), sell(0, 5), buy(-1, 5), sell(-1, 5),
	buy(api.MaxQty+1, 5), sell(api.MaxQty+1, 5),
	buy(math.MaxInt64, 5), sell(math.MinInt64, 5),
}

// P3.1: Check accepts valid bids, up to their limits, and lists up to theirs.
func TestCheck(t *testing.T) {
	wantCheck(t, nil, api.OK)
	wantCheck(t, []call.Bid{}, api.OK)
	wantCheck(t, hops(), api.OK)
	wantCheck(t, []call.Bid{buy(1, 1), sell(1, 1), buy(api.MaxQty, api.MaxPrice), sell(api.MaxQty, api.MaxPrice)}, api.OK)
	wantCheck(t, many(api.MaxItems), api.OK)
	wantCheck(t, many(api.MaxItems+1), api.ErrLong)
	for _, b := range wrongBids {
		wantCheck(t, []call.Bid{b}, api.ErrArg)
		wantCheck(t, append(hops(), b), api.ErrArg)
		wantCheck(t, append([]call.Bid{b}, hops()...), api.ErrArg)
		wantCheck(t, append(many(api.MaxItems), b), api.ErrLong)
	}
}

// P3.1: what Check returns comes before any other error of a call.
func TestCheckFirst(t *testing.T) {
	for _, b := range wrongBids {
		wantFirst(t, append(hops(), b), api.ErrArg)
	}
	wantFirst(t, append(many(api.MaxItems), call.Bid{}), api.ErrLong)
	wantFirst(t, many(api.MaxItems+1), api.ErrLong)
}

// wantFirst asks every call that takes bids for the error, with good arguments and with wrong ones.
func wantFirst(t *testing.T, l []call.Bid, want api.Errno) {
	t.Helper()
	wantBest(t, l, 0, 0, 0, want)
	for _, price := range append(notPrices, 50) {
		wantAt(t, l, price, 0, 0, want)
		wantPrice(t, l, price, 0, want)
		for _, rule := range append(notRules, rules...) {
			r, e := call.Clear(l, price, rule)
			wantNoResult(t, "Clear", r, e, want)
			r, e = call.ClearAt(l, price, rule)
			wantNoResult(t, "ClearAt", r, e, want)
		}
	}
	wantGain(t, l, nil, 0, want)
	wantGain(t, l, make([]int64, len(l)), 0, want)
}

// P3.2: At is the demand and the supply of the chapter's example.
func TestAt(t *testing.T) {
	for _, x := range [][3]int64{
		{1, 15, 0}, {48, 15, 0}, {49, 15, 8}, {50, 15, 8}, {51, 10, 12}, {52, 10, 12}, {53, 0, 12}, {api.MaxPrice, 0, 12},
	} {
		wantAt(t, hops(), x[0], x[1], x[2], api.OK)
	}
	wantAt(t, nil, 1, 0, 0, api.OK)
	wantAt(t, nil, api.MaxPrice, 0, 0, api.OK)
	ends := []call.Bid{buy(2, 1), sell(3, 1), buy(4, api.MaxPrice), sell(5, api.MaxPrice)}
	wantAt(t, ends, 1, 6, 3, api.OK)
	wantAt(t, ends, 2, 4, 3, api.OK)
	wantAt(t, ends, api.MaxPrice-1, 4, 3, api.OK)
	wantAt(t, ends, api.MaxPrice, 4, 8, api.OK)
	for _, price := range notPrices {
		wantAt(t, hops(), price, 0, 0, api.ErrArg)
		wantAt(t, nil, price, 0, 0, api.ErrArg)
	}
}

// P3.2: At of the longest list of the greatest quantities.
func TestAtMost(t *testing.T) {
	l := make([]call.Bid, api.MaxItems)
	for i := range l {
		l[i] = buy(api.MaxQty, 7)
	}
	wantAt(t, l, 7, api.MaxItems*api.MaxQty, 0, api.OK)
	wantAt(t, l, 8, 0, 0, api.OK)
}

// P3.2: Best is the prices of the greatest volume, from the least to the greatest.
func TestBest(t *testing.T) {
	wantBest(t, hops(), 51, 52, 10, api.OK)
	wantBest(t, []call.Bid{buy(3, 10), sell(3, 8)}, 8, 10, 3, api.OK)
	wantBest(t, []call.Bid{sell(3, 8), buy(3, 10)}, 8, 10, 3, api.OK)
	wantBest(t, []call.Bid{buy(3, 10), sell(2, 10)}, 10, 10, 2, api.OK)
	wantBest(t, []call.Bid{buy(1, 1), sell(1, 1)}, 1, 1, 1, api.OK)
	wantBest(t, []call.Bid{buy(1, api.MaxPrice), sell(1, api.MaxPrice)}, api.MaxPrice, api.MaxPrice, 1, api.OK)
	wantBest(t, []call.Bid{buy(api.MaxQty, api.MaxPrice), sell(api.MaxQty, 1)}, 1, api.MaxPrice, api.MaxQty, api.OK)
	// The volume is the same at prices of several stretches.
	wantBest(t, []call.Bid{buy(3, 20), buy(9, 14), sell(3, 10), sell(9, 16)}, 10, 20, 3, api.OK)
}

// P3.2: Best has no price where nothing trades.
func TestNoBest(t *testing.T) {
	for _, l := range dead() {
		wantBest(t, l, 0, 0, 0, api.ErrPrice)
	}
}

// dead returns lists of bids of which none can trade.
func dead() [][]call.Bid {
	return [][]call.Bid{
		nil,
		{},
		{buy(3, 10)},
		{sell(3, 10)},
		{buy(3, 10), buy(4, 12)},
		{buy(3, 10), sell(3, 11)},
		{sell(3, api.MaxPrice), buy(3, api.MaxPrice-1), buy(1, 1), sell(5, api.MaxPrice)},
	}
}

// P3.3: the price of the chapter's examples.
func TestPriceExamples(t *testing.T) {
	for _, reference := range []int64{1, 50, 51, 52, 53, api.MaxPrice} {
		wantPrice(t, hops(), reference, 51, api.OK)
	}
	l := []call.Bid{buy(3, 10), sell(3, 8)}
	for _, x := range [][2]int64{{9, 9}, {20, 10}, {1, 8}, {8, 8}, {10, 10}, {7, 8}, {11, 10}, {api.MaxPrice, 10}} {
		wantPrice(t, l, x[0], x[1], api.OK)
	}
}

// P3.3: each of the definition's rules decides where those before it do not.
func TestPriceRules(t *testing.T) {
	for _, x := range []struct {
		why              string
		l                []call.Bid
		reference, price int64
	}{
		{"only one price has the greatest volume", []call.Bid{buy(3, 10), buy(2, 9), sell(3, 8), sell(2, 9)}, 500, 9},
		{"the least surplus, at the lower prices", []call.Bid{buy(3, 20), sell(3, 10), sell(9, 16)}, 500, 15},
		{"the least surplus, at the higher prices", []call.Bid{buy(3, 20), sell(3, 10), buy(9, 14)}, 1, 15},
		{"the least surplus without its sign is negative", []call.Bid{buy(9, 15), buy(3, 20), sell(3, 10), sell(2, 16)}, 500, 16},
		{"all surpluses above 0: the greatest price", []call.Bid{buy(5, 20), sell(3, 10)}, 1, 20},
		{"all surpluses below 0: the least price", []call.Bid{buy(3, 20), sell(5, 10)}, 500, 10},
		{"all surpluses 0: the reference price", []call.Bid{buy(3, 20), sell(3, 10)}, 13, 13},
		{"surpluses of 4 and of -4: the reference price above them", []call.Bid{buy(4, 20), buy(4, 14), sell(4, 10), sell(4, 15)}, 100, 20},
		{"surpluses of 4 and of -4: the reference price among the higher ones", []call.Bid{buy(4, 20), buy(4, 14), sell(4, 10), sell(4, 15)}, 17, 17},
		{"surpluses of 4 and of -4: the reference price among the lower ones", []call.Bid{buy(4, 20), buy(4, 14), sell(4, 10), sell(4, 15)}, 13, 13},
		{"surpluses of 4 and of -4: the reference price below them", []call.Bid{buy(4, 20), buy(4, 14), sell(4, 10), sell(4, 15)}, 3, 10},
	} {
		p, e := call.Price(x.l, x.reference)
		if p != x.price || e != api.OK {
			t.Errorf("%s: Price(%v, %d): %d, error %d, want %d", x.why, x.l, x.reference, p, e, x.price)
		}
	}
}

// P3.3: the price at the ends of the prices.
func TestPriceEnds(t *testing.T) {
	wide := []call.Bid{buy(4, api.MaxPrice), sell(4, 1)}
	for _, reference := range []int64{1, 2, 777, api.MaxPrice - 1, api.MaxPrice} {
		wantPrice(t, wide, reference, reference, api.OK)
		wantPrice(t, append(wide, buy(1, api.MaxPrice)), reference, api.MaxPrice, api.OK)
		wantPrice(t, append(wide, sell(1, 1)), reference, 1, api.OK)
	}
}

// P3.3: a reference price that is none, and no price.
func TestPriceErrors(t *testing.T) {
	for _, reference := range notPrices {
		wantPrice(t, hops(), reference, 0, api.ErrArg)
		wantPrice(t, nil, reference, 0, api.ErrArg)
	}
	for _, l := range dead() {
		for _, reference := range []int64{1, 10, api.MaxPrice} {
			wantPrice(t, l, reference, 0, api.ErrPrice)
		}
	}
}
