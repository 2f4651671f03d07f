package call_test

import (
	"math"
	"slices"
	"testing"

	"oast/api"
	"oast/call"
)

// buy and sell are bids of a quantity at a price.
func buy(qty, price int64) call.Bid { return call.Bid{Side: api.Buy, Price: price, Qty: qty} }

func sell(qty, price int64) call.Bid { return call.Bid{Side: api.Sell, Price: price, Qty: qty} }

// hops is the chapter's first example.
func hops() []call.Bid { return []call.Bid{buy(10, 52), buy(5, 50), sell(8, 49), sell(4, 51)} }

// many returns n buyers.
func many(n int) []call.Bid { return slices.Repeat([]call.Bid{buy(1, 1)}, n) }

// notPrices and notRules are numbers that are no price and no rule.
var (
	notPrices = []int64{0, -1, api.MaxPrice + 1, math.MaxInt64, math.MinInt64}
	notRules  = []int{0, -1, 3, math.MaxInt, math.MinInt}
	rules     = []int{call.ByTime, call.ByShare}
)

func wantCheck(t *testing.T, l []call.Bid, want api.Errno) {
	t.Helper()
	if e := call.Check(l); e != want {
		t.Errorf("Check(%v): error %d, want %d", few(l), e, want)
	}
}

func wantAt(t *testing.T, l []call.Bid, price, demand, supply int64, want api.Errno) {
	t.Helper()
	d, s, e := call.At(l, price)
	if d != demand || s != supply || e != want {
		t.Errorf("At(%v, %d): %d, %d, error %d, want %d, %d, error %d", few(l), price, d, s, e, demand, supply, want)
	}
}

func wantBest(t *testing.T, l []call.Bid, lo, hi, volume int64, want api.Errno) {
	t.Helper()
	a, b, v, e := call.Best(l)
	if a != lo || b != hi || v != volume || e != want {
		t.Errorf("Best(%v): %d, %d, %d, error %d, want %d, %d, %d, error %d", few(l), a, b, v, e, lo, hi, volume, want)
	}
}

func wantPrice(t *testing.T, l []call.Bid, reference, price int64, want api.Errno) {
	t.Helper()
	p, e := call.Price(l, reference)
	if p != price || e != want {
		t.Errorf("Price(%v, %d): %d, error %d, want %d, error %d", few(l), reference, p, e, price, want)
	}
}

// wantResult compares what Clear or ClearAt returned.
func wantResult(t *testing.T, what string, got call.Result, e api.Errno, want call.Result) {
	t.Helper()
	if e != api.OK || !same(got, want) {
		t.Errorf("%s: %v, error %d, want %v", what, got, e, want)
	}
}

// wantNoResult asks for the error, and for nothing next to it.
func wantNoResult(t *testing.T, what string, got call.Result, e, want api.Errno) {
	t.Helper()
	if e != want || !same(got, call.Result{}) {
		t.Errorf("%s: %v, error %d, want error %d", what, got, e, want)
	}
}

func wantGain(t *testing.T, l []call.Bid, fills []int64, gain int64, want api.Errno) {
	t.Helper()
	g, e := call.Gain(l, fills)
	if g != gain || e != want {
		t.Errorf("Gain(%v, %v): %d, error %d, want %d, error %d", few(l), few(fills), g, e, gain, want)
	}
}

func wantSplit(t *testing.T, total int64, weights []int64, want ...int64) {
	t.Helper()
	l, e := call.Split(total, weights)
	if e != api.OK || !slices.Equal(l, want) {
		t.Errorf("Split(%d, %v): %v, error %d, want %v", total, few(weights), few(l), e, few(want))
	}
}

func wantNoSplit(t *testing.T, total int64, weights []int64, want api.Errno) {
	t.Helper()
	l, e := call.Split(total, weights)
	if e != want || len(l) != 0 {
		t.Errorf("Split(%d, %v): %v, error %d, want error %d", total, few(weights), few(l), e, want)
	}
}

func same(a, b call.Result) bool {
	return a.Price == b.Price && a.Volume == b.Volume && a.Surplus == b.Surplus && slices.Equal(a.Fills, b.Fills)
}

// few keeps what a test prints short.
func few[T any](l []T) []T { return l[:min(len(l), 12)] }
