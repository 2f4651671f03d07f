package house_test

import (
	"slices"
	"testing"

	"oast/api"
	"oast/house"
)

// rows are so many lists of so many numbers, all the same.
func rows(scenarios, months int, x int64) [][]int64 {
	l := make([][]int64, scenarios)
	for i := range l {
		l[i] = slices.Repeat([]int64{x}, months)
	}
	return l
}

// P9.1: the least and the greatest houses.
func TestNew(t *testing.T) {
	for _, members := range []int{2, 3, 64} {
		for _, months := range []int{1, 2, 12} {
			for _, scenarios := range []int{0, 1, 64} {
				for _, x := range []struct{ price, move, rate, capital int64 }{
					{1, -api.MaxPrice, 0, 0}, {100, 0, 500, 70}, {api.MaxPrice, api.MaxPrice, 1000, api.MaxMoney},
				} {
					wantFresh(t, house.Config{
						Members: members, Months: months, Prices: slices.Repeat([]int64{x.price}, months),
						Moves: rows(scenarios, months, x.move), Rate: x.rate, Capital: x.capital,
					})
				}
			}
		}
	}
}

// wantFresh asks for a house as it is at first.
func wantFresh(t *testing.T, c house.Config) {
	t.Helper()
	h := newHouse(t, c)
	for member := 1; member <= c.Members; member++ {
		wantAccount(t, h, member, 0, 0, make([]int64, c.Months)...)
		wantMargin(t, h, member, 0)
		wantWorst(t, h, member, -1, 0)
		if a, _ := h.Account(member); a.Out {
			t.Errorf("member %d is out", member)
		}
	}
	for month, price := range c.Prices {
		wantPrice(t, h, month, price)
	}
	for scenario := range c.Moves {
		wantStress(t, h, scenario, make([]int64, c.Members)...)
	}
	wantCapital(t, h, c.Capital, 0)
	wantTotal(t, h, c.Capital)
	wantCalls(t, h)
	if _, e := h.Contract(1); e != api.ErrNone {
		t.Errorf("Contract(1): error %d", e)
	}
}

// valid is a valid configuration, changed.
func valid(change func(c *house.Config)) house.Config {
	c := house.Config{Members: 3, Months: 2, Prices: []int64{5, 6}, Moves: [][]int64{{1, -1}, {2, 0}}, Rate: 100, Capital: 1000}
	change(&c)
	return c
}

func wantNoHouse(t *testing.T, c house.Config, want api.Errno) {
	t.Helper()
	if h, e := house.New(c); h != nil || e != want {
		t.Errorf("New(%+v): %v, error %d, want %d", c, h, e, want)
	}
}

// P9.1: what is out of its range, in the configuration.
func TestNewOutOfRange(t *testing.T) {
	wantFresh(t, valid(func(*house.Config) {}))
	wantNoHouse(t, house.Config{}, api.ErrArg)
	for _, x := range outside(2, 64) {
		wantNoHouse(t, valid(func(c *house.Config) { c.Members = x }), api.ErrArg)
	}
	for _, x := range outside(1, 12) {
		wantNoHouse(t, valid(func(c *house.Config) { c.Months = x }), api.ErrArg)
		wantNoHouse(t, valid(func(c *house.Config) {
			c.Months, c.Prices, c.Moves = x, make([]int64, min(max(x, 0), 13)), nil
		}), api.ErrArg)
	}
	for _, x := range outside64(0, 1000) {
		wantNoHouse(t, valid(func(c *house.Config) { c.Rate = x }), api.ErrArg)
	}
	for _, x := range outside64(0, api.MaxMoney) {
		wantNoHouse(t, valid(func(c *house.Config) { c.Capital = x }), api.ErrArg)
	}
	for _, x := range outside64(1, api.MaxPrice) {
		wantNoHouse(t, valid(func(c *house.Config) { c.Prices[0] = x }), api.ErrArg)
		wantNoHouse(t, valid(func(c *house.Config) { c.Prices[1] = x }), api.ErrArg)
	}
	for _, x := range outside64(-api.MaxPrice, api.MaxPrice) {
		wantNoHouse(t, valid(func(c *house.Config) { c.Moves[0][0] = x }), api.ErrArg)
		wantNoHouse(t, valid(func(c *house.Config) { c.Moves[1][1] = x }), api.ErrArg)
	}
}

// P9.1: lists of the wrong length.
func TestNewShape(t *testing.T) {
	for _, l := range [][]int64{nil, {5}, {5, 6, 7}} {
		wantNoHouse(t, valid(func(c *house.Config) { c.Prices = l }), api.ErrShape)
		wantNoHouse(t, valid(func(c *house.Config) { c.Moves[0] = l }), api.ErrShape)
		wantNoHouse(t, valid(func(c *house.Config) { c.Moves[1] = l }), api.ErrShape)
	}
	wantNoHouse(t, valid(func(c *house.Config) { c.Moves = rows(65, 2, 1) }), api.ErrShape)
	wantFresh(t, valid(func(c *house.Config) { c.Moves = rows(64, 2, 1) }))
}

// P9.1, R1: numbers first, then lengths, then prices and moves.
func TestNewOrder(t *testing.T) {
	wantNoHouse(t, valid(func(c *house.Config) { c.Capital, c.Prices = -1, nil }), api.ErrArg)
	wantNoHouse(t, valid(func(c *house.Config) { c.Rate, c.Moves = 1001, rows(65, 2, 1) }), api.ErrArg)
	wantNoHouse(t, valid(func(c *house.Config) { c.Prices[0], c.Moves[1] = 0, nil }), api.ErrShape)
	wantNoHouse(t, valid(func(c *house.Config) { c.Moves[0][0], c.Moves[1] = api.MaxPrice+1, []int64{1} }), api.ErrShape)
	wantNoHouse(t, valid(func(c *house.Config) { c.Prices[0], c.Moves = 0, rows(65, 2, 1) }), api.ErrShape)
	wantNoHouse(t, valid(func(c *house.Config) { c.Moves[0][0], c.Prices = api.MaxPrice+1, []int64{1} }), api.ErrShape)
}
