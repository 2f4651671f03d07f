package call_test

import (
	"math/rand"
	"slices"
	"testing"

	"oast/api"
	"oast/call"
)

// randomBids returns up to most bids around a price.
func randomBids(r *rand.Rand, most int, around, spread, qty int64) []call.Bid {
	l := make([]call.Bid, r.Intn(most+1))
	for i := range l {
		price := min(max(around+r.Int63n(2*spread+1)-spread, 1), api.MaxPrice)
		l[i] = call.Bid{Side: 1 + r.Intn(2), Price: price, Qty: 1 + r.Int63n(qty)}
	}
	return l
}

// curves is the demand and the supply at a price, as the chapter defines them.
func curves(l []call.Bid, p int64) (demand, supply int64) {
	for _, b := range l {
		if b.Side == api.Buy && b.Price >= p {
			demand += b.Qty
		}
		if b.Side == api.Sell && b.Price <= p {
			supply += b.Qty
		}
	}
	return demand, supply
}

// busiest returns the prices from lo to hi with the greatest volume, and that volume.
func busiest(l []call.Bid, lo, hi int64) (prices []int64, volume int64) {
	for p := lo; p <= hi; p++ {
		v := min(curves(l, p))
		if v > volume {
			prices, volume = nil, v
		}
		if v == volume {
			prices = append(prices, p)
		}
	}
	return prices, volume
}

// definedPrice narrows the busiest prices as the chapter says.
func definedPrice(l []call.Bid, prices []int64, reference int64) int64 {
	surplus := func(p int64) int64 {
		d, s := curves(l, p)
		return d - s
	}
	size := func(n int64) int64 { return max(n, -n) }
	low := size(surplus(prices[0]))
	for _, p := range prices {
		low = min(low, size(surplus(p)))
	}
	prices = slices.DeleteFunc(slices.Clone(prices), func(p int64) bool { return size(surplus(p)) != low })
	above := !slices.ContainsFunc(prices, func(p int64) bool { return surplus(p) <= 0 })
	below := !slices.ContainsFunc(prices, func(p int64) bool { return surplus(p) >= 0 })
	if above {
		return slices.Max(prices)
	}
	if below {
		return slices.Min(prices)
	}
	nearest := prices[0]
	for _, p := range prices {
		if size(p-reference) < size(nearest-reference) {
			nearest = p
		}
	}
	return nearest
}

// definedFills serves the bids that take part price by price, from 20 away from the price on, until the volume is used up.
func definedFills(l []call.Bid, p int64, rule int) []int64 {
	fills := make([]int64, len(l))
	volume := min(curves(l, p))
	for _, side := range []int{api.Buy, api.Sell} {
		left := volume
		for away := int64(20); away >= 0 && left > 0; away-- {
			at := p + away
			if side == api.Sell {
				at = p - away
			}
			left -= definedShares(l, fills, left, side, at, rule)
		}
	}
	return fills
}

// definedShares serves the bids of one price, and returns how much they trade.
func definedShares(l []call.Bid, fills []int64, left int64, side int, price int64, rule int) (given int64) {
	var numbers []int
	var weights []int64
	sum := int64(0)
	for i, b := range l {
		if b.Side == side && b.Price == price {
			numbers, weights, sum = append(numbers, i), append(weights, b.Qty), sum+b.Qty
		}
	}
	if sum == 0 {
		return 0
	}
	shares := exactShares(min(left, sum), weights)
	for i, n := range numbers {
		fills[n] = shares[i]
		if rule == call.ByTime {
			fills[n] = min(left-given, weights[i])
		}
		given += fills[n]
	}
	return given
}

// wantDefined compares every call with the definition, for the prices from lo to hi; outside them nothing may trade.
func wantDefined(t *testing.T, l []call.Bid, lo, hi int64, references []int64) {
	t.Helper()
	prices, volume := busiest(l, lo, hi)
	if volume == 0 {
		wantBest(t, l, 0, 0, 0, api.ErrPrice)
		wantPrice(t, l, references[0], 0, api.ErrPrice)
		return
	}
	wantBest(t, l, slices.Min(prices), slices.Max(prices), volume, api.OK)
	for _, reference := range references {
		p := definedPrice(l, prices, reference)
		wantPrice(t, l, reference, p, api.OK)
		for _, rule := range rules {
			d, s := curves(l, p)
			r, e := call.Clear(l, reference, rule)
			if e != api.OK || r.Price != p || r.Volume != min(d, s) || r.Surplus != d-s {
				t.Fatalf("Clear(%v, %d, %d): %v, error %d, want price %d", l, reference, rule, r, e, p)
			}
		}
	}
}

// P3.1 to P3.4: short lists at low prices, all of whose prices are looked at.
func TestModel(t *testing.T) {
	r := rand.New(rand.NewSource(1))
	for range 4000 {
		l := randomBids(r, 9, 8, 7, 1+r.Int63n(6))
		wantCheck(t, l, api.OK)
		references := []int64{1, api.MaxPrice, 1 + r.Int63n(16), 1 + r.Int63n(16)}
		wantDefined(t, l, 1, 16, references)
		for p := int64(1); p <= 16; p++ {
			d, s := curves(l, p)
			wantAt(t, l, p, d, s, api.OK)
		}
	}
}

// P3.2, P3.3: lists at the greatest prices, and over all the prices.
func TestModelWide(t *testing.T) {
	r := rand.New(rand.NewSource(2))
	for range 400 {
		l := randomBids(r, 9, api.MaxPrice, 9, 5)
		wantDefined(t, l, api.MaxPrice-20, api.MaxPrice, []int64{1, api.MaxPrice, api.MaxPrice - r.Int63n(12)})
	}
	for range 15 {
		l := randomBids(r, 7, api.MaxPrice/2, api.MaxPrice/2, 4)
		wantDefined(t, l, 1, api.MaxPrice, []int64{1 + r.Int63n(api.MaxPrice)})
	}
}

// P3.4: ClearAt at any price where something trades.
func TestModelFills(t *testing.T) {
	r := rand.New(rand.NewSource(3))
	for range 60 {
		l := randomBids(r, 12, 8, 3, 9)
		for p := int64(4); p <= 12; p++ {
			d, s := curves(l, p)
			for _, rule := range rules {
				got, e := call.ClearAt(l, p, rule)
				if d == 0 || s == 0 {
					wantNoResult(t, "ClearAt", got, e, api.ErrPrice)
					continue
				}
				wantResult(t, "ClearAt", got, e, call.Result{Price: p, Volume: min(d, s), Surplus: d - s, Fills: definedFills(l, p, rule)})
			}
		}
	}
}

// P3.7: the fills are balanced, and nobody trades at a price that its bid excludes.
func TestBalance(t *testing.T) {
	r := rand.New(rand.NewSource(4))
	for range 1500 {
		l := randomBids(r, 40, 30, 20, api.MaxQty)
		for _, rule := range rules {
			if got, e := call.Clear(l, 1+r.Int63n(60), rule); e == api.OK {
				wantBalance(t, l, got)
			}
			if got, e := call.ClearAt(l, 1+r.Int63n(60), rule); e == api.OK {
				wantBalance(t, l, got)
			}
		}
	}
}

func wantBalance(t *testing.T, l []call.Bid, got call.Result) {
	t.Helper()
	var bought, sold int64
	for i, b := range l {
		n := got.Fills[i]
		if n < 0 || n > b.Qty {
			t.Fatalf("%v trades %d", b, n)
		}
		if n > 0 && (b.Side == api.Buy && b.Price < got.Price || b.Side == api.Sell && b.Price > got.Price) {
			t.Fatalf("%v trades %d at %d", b, n, got.Price)
		}
		if b.Side == api.Buy {
			bought += n
		} else {
			sold += n
		}
	}
	if got.Volume < 1 || bought != got.Volume || sold != got.Volume {
		t.Fatalf("%d are bought, %d sold, the volume is %d", bought, sold, got.Volume)
	}
}

// P3.8: at the price of the auction no two are left who could still trade, and one side is served in full.
func TestNoTwoLeft(t *testing.T) {
	r := rand.New(rand.NewSource(5))
	for range 1500 {
		l := randomBids(r, 20, 12, 11, 1+r.Int63n(30))
		for _, rule := range rules {
			got, e := call.Clear(l, 1+r.Int63n(25), rule)
			if e != api.OK {
				continue
			}
			var better, short [3]bool // by sides: one that was not served in full has a better price, or takes part
			for i, b := range l {
				if got.Fills[i] == b.Qty {
					continue
				}
				away := got.Price - b.Price
				if b.Side == api.Buy {
					away = -away
				}
				better[b.Side] = better[b.Side] || away > 0
				short[b.Side] = short[b.Side] || away >= 0
			}
			if better[api.Buy] && better[api.Sell] || short[api.Buy] && short[api.Sell] {
				t.Fatalf("Clear(%v): %v leaves some who could trade", l, got)
			}
		}
	}
}

// P3.9: no other fills with equal sums have a greater gain. All of them are tried.
func TestGreatestGain(t *testing.T) {
	r := rand.New(rand.NewSource(6))
	for range 1500 {
		l := randomBids(r, 7, 6, 5, 3)
		most := greatestGain(l, make([]int64, len(l)), 0)
		got, e := call.Clear(l, 1+r.Int63n(12), 1+r.Intn(2))
		if e == api.ErrPrice {
			got.Fills = make([]int64, len(l))
		}
		wantGain(t, l, got.Fills, most, api.OK)
	}
}

// greatestGain tries all fills of the bids from a number on.
func greatestGain(l []call.Bid, fills []int64, from int) int64 {
	if from == len(l) {
		var left, gain int64
		for i, b := range l {
			n := fills[i]
			if b.Side == api.Sell {
				n = -n
			}
			left, gain = left+n, gain+n*b.Price
		}
		if left != 0 {
			return 0 // that of no fills at all
		}
		return gain
	}
	best := int64(0)
	for n := range l[from].Qty + 1 {
		fills[from] = n
		best = max(best, greatestGain(l, fills, from+1))
	}
	return best
}

// P3.10: one bid more never makes the greatest volume less, a greater reference price never the price.
func TestMonotone(t *testing.T) {
	r := rand.New(rand.NewSource(7))
	for range 500 {
		l := randomBids(r, 20, 15, 14, 20)
		before := int64(0)
		for i := range l {
			_, _, volume, _ := call.Best(l[:i+1])
			if volume < before {
				t.Fatalf("Best(%v): the volume is %d, and %d without the last bid", l[:i+1], volume, before)
			}
			before = volume
		}
		last := int64(0)
		for reference := int64(1); reference <= 32; reference++ {
			p, _ := call.Price(l, reference)
			if p < last {
				t.Fatalf("Price(%v, %d): %d, after %d", l, reference, p, last)
			}
			last = p
		}
	}
}
