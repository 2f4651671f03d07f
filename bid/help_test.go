package bid_test

import (
	"math"
	"slices"
	"strconv"
	"testing"

	"oast/api"
	"oast/bid"
)

// notWorths are numbers that are no worth, reserve, bid or price.
var notWorths = []int64{-1, api.MaxWorth + 1, math.MaxInt64, math.MinInt64}

// notNumbers are numbers that no bidder or buyer of a small auction has.
var notNumbers = []int{-1, 3, math.MaxInt, math.MinInt}

// offer is a worth for the lots with these numbers.
func offer(worth int64, lots ...int) bid.Offer {
	o := bid.Offer{Worth: worth}
	for _, lot := range lots {
		o.Lots |= 1 << lot
	}
	return o
}

// trio is the chapter's first example.
func trio() bid.Auction {
	return bid.Auction{Goods: 2, Reserve: []int64{0, 0}, Bidders: [][]bid.Offer{{offer(10, 0)}, {offer(8, 1)}, {offer(15, 0, 1)}}}
}

// single is an auction of one lot, with a bidder for each bid.
func single(reserve int64, bids ...int64) bid.Auction {
	a := bid.Auction{Goods: 1, Reserve: []int64{reserve}}
	for _, b := range bids {
		a.Bidders = append(a.Bidders, []bid.Offer{offer(b, 0)})
	}
	return a
}

// with returns the auction with other offers of a bidder.
func with(a bid.Auction, bidder int, offers ...bid.Offer) bid.Auction {
	a.Bidders = slices.Clone(a.Bidders)
	a.Bidders[bidder] = offers
	return a
}

// alone returns the auction in which only these bidders take part.
func alone(a bid.Auction, bidders ...int) bid.Auction {
	all := a.Bidders
	a.Bidders = make([][]bid.Offer, len(all))
	for _, b := range bidders {
		a.Bidders[b] = all[b]
	}
	return a
}

func wantCheck(t *testing.T, what string, a bid.Auction, want api.Errno) {
	t.Helper()
	if e := bid.Check(a); e != want {
		t.Errorf("%s: Check: error %d, want %d", what, e, want)
	}
}

func wantAward(t *testing.T, a bid.Auction, want bid.Award) {
	t.Helper()
	w, e := bid.Solve(a)
	if e != api.OK || !same(w, want) {
		t.Errorf("Solve(%v): %v, error %d, want %v", a, w, e, want)
	}
}

func wantTotal(t *testing.T, a bid.Auction, choices []int, total int64, want api.Errno) {
	t.Helper()
	x, e := bid.Total(a, choices)
	if x != total || e != want {
		t.Errorf("Total(%v, %v): %d, error %d, want %d, error %d", a, choices, x, e, total, want)
	}
}

func wantWithout(t *testing.T, a bid.Auction, bidder int, total int64, want api.Errno) {
	t.Helper()
	x, e := bid.Without(a, bidder)
	if x != total || e != want {
		t.Errorf("Without(%v, %d): %d, error %d, want %d, error %d", a, bidder, x, e, total, want)
	}
}

func wantGain(t *testing.T, a bid.Auction, truth []bid.Offer, bidder int, gain int64, want api.Errno) {
	t.Helper()
	x, e := bid.Gain(a, truth, bidder)
	if x != gain || e != want {
		t.Errorf("Gain(%v, %v, %d): %d, error %d, want %d, error %d", a, truth, bidder, x, e, gain, want)
	}
}

func wantRevenue(t *testing.T, a bid.Auction, revenue int64) {
	t.Helper()
	x, e := bid.Revenue(a)
	if x != revenue || e != api.OK {
		t.Errorf("Revenue(%v): %d, error %d, want %d", a, x, e, revenue)
	}
}

// wantBlocks asks for a set of bidders, or for none if want is empty.
func wantBlocks(t *testing.T, a bid.Auction, w bid.Award, want ...int) {
	t.Helper()
	l, ok := bid.Blocks(a, w)
	if !slices.Equal(l, want) || ok != (len(want) > 0) {
		t.Errorf("Blocks(%v, %v): %v, %v, want %v", a, w, l, ok, want)
	}
}

func wantHall(t *testing.T, worth [][]int64, lots []int, prices []int64) {
	t.Helper()
	l, p, e := bid.Hall(worth)
	if e != api.OK || !slices.Equal(l, lots) || !slices.Equal(p, prices) {
		t.Errorf("Hall(%v): %v, %v, error %d, want %v, %v", worth, l, p, e, lots, prices)
	}
}

func wantContent(t *testing.T, worth [][]int64, lots []int, prices []int64, buyer int, want bool) {
	t.Helper()
	b, ok := bid.Content(worth, lots, prices)
	if b != buyer || ok != want {
		t.Errorf("Content(%v, %v, %v): %d, %v, want %d, %v", worth, lots, prices, b, ok, buyer, want)
	}
}

func wantWanted(t *testing.T, worth [][]int64, prices []int64, buyer int, want api.Errno, lots ...int) {
	t.Helper()
	l, e := bid.Wanted(worth, prices, buyer)
	if e != want || !slices.Equal(l, lots) {
		t.Errorf("Wanted(%v, %v, %d): %v, error %d, want %v, error %d", worth, prices, buyer, l, e, lots, want)
	}
}

func wantNoCrowd(t *testing.T, worth [][]int64, prices []int64) {
	t.Helper()
	if b, l, ok := bid.Crowd(worth, prices); ok || len(b) != 0 || len(l) != 0 {
		t.Errorf("Crowd(%v, %v): %v, %v, %v, want none", worth, prices, b, l, ok)
	}
}

// wantCrowd asks for a crowd, and examines it by its definition.
func wantCrowd(t *testing.T, worth [][]int64, prices []int64) {
	t.Helper()
	buyers, lots, ok := bid.Crowd(worth, prices)
	good := ok && len(buyers) > len(lots) && rising(buyers, len(worth)) && rising(lots, len(prices))
	for i := 0; good && i < len(buyers); i++ {
		row := worth[buyers[i]]
		good = !content(row, prices, -1)
		for lot := range prices {
			good = good && (slices.Contains(lots, lot) || !content(row, prices, lot))
		}
	}
	if !good {
		t.Errorf("Crowd(%v, %v): %v, %v, %v is no crowd", worth, prices, buyers, lots, ok)
	}
}

// rising tells whether the numbers rise and are those of n things.
func rising(l []int, n int) bool {
	last := -1
	for _, x := range l {
		if x <= last || x >= n {
			return false
		}
		last = x
	}
	return true
}

func wantSecond(t *testing.T, bids []int64, reserve int64, winner int, price int64, want api.Errno) {
	t.Helper()
	w, p, e := bid.Second(bids, reserve)
	if w != winner || p != price || e != want {
		t.Errorf("Second(%v, %d): %d, %d, error %d, want %d, %d, error %d", few(bids), reserve, w, p, e, winner, price, want)
	}
}

func wantUniform(t *testing.T, bids []int64, lots int, price int64, winners ...int) {
	t.Helper()
	w, p, e := bid.Uniform(bids, lots)
	if e != api.OK || p != price || !slices.Equal(w, winners) {
		t.Errorf("Uniform(%v, %d): %v, %d, error %d, want %v, %d", few(bids), lots, few(w), p, e, few(winners), price)
	}
}

func wantNoUniform(t *testing.T, bids []int64, lots int, want api.Errno) {
	t.Helper()
	w, p, e := bid.Uniform(bids, lots)
	if e != want || len(w) != 0 || p != 0 {
		t.Errorf("Uniform(%v, %d): %v, %d, error %d, want error %d", few(bids), lots, few(w), p, e, want)
	}
}

func same(a, b bid.Award) bool {
	return slices.Equal(a.Choices, b.Choices) && a.Total == b.Total && slices.Equal(a.Pays, b.Pays)
}

// few keeps what a test prints short.
func few[T any](l []T) []T { return l[:min(len(l), 12)] }

// hall returns a table with as many rows and elements of a worth.
func hall(rows, elements int, worth int64) [][]int64 {
	l := make([][]int64, rows)
	for i := range l {
		l[i] = slices.Repeat([]int64{worth}, elements)
	}
	return l
}

// name is a number in the name of a case.
func name(x int64) string { return strconv.FormatInt(x, 10) }
