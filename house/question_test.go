package house_test

import (
	"testing"

	"oast/api"
	"oast/house"
)

// P9.7: the scenario with the greatest loss, the first one of several, and the margin without a rate.
func TestWorst(t *testing.T) {
	for _, x := range []struct {
		positions []int64 // of member 1, in each month
		moves     [][]int64
		scenario  int
		loss      int64
	}{
		{[]int64{5}, nil, -1, 0},
		{[]int64{0}, [][]int64{{-9}, {9}}, -1, 0},
		{[]int64{5}, [][]int64{{0}, {9}}, -1, 0},
		{[]int64{5}, [][]int64{{10}, {-20}}, 1, 100},
		{[]int64{-5}, [][]int64{{10}, {-20}}, 0, 50},
		{[]int64{5}, [][]int64{{-1}, {-3}, {-2}, {-3}}, 1, 15},
		{[]int64{5}, [][]int64{{-3}, {-3}}, 0, 15},
		{[]int64{1}, [][]int64{{0}, {0}, {-1}}, 2, 1},
		{[]int64{5, -5}, [][]int64{{10, 10}, {-10, -10}}, -1, 0},
		{[]int64{5, -5}, [][]int64{{10, 11}, {-10, -8}, {7, 8}}, 1, 10},
		{[]int64{2, 3, -4}, [][]int64{{1, 1, 1}, {-1, 1, 1}, {-1, -1, 1}, {-1, -1, -1}}, 2, 9},
		{[]int64{maxQty}, [][]int64{{-api.MaxPrice}}, 0, maxQty * api.MaxPrice},
		{[]int64{-maxQty}, [][]int64{{api.MaxPrice}}, 0, maxQty * api.MaxPrice},
		{[]int64{-maxQty, maxQty}, [][]int64{{1, -1}, {api.MaxPrice, -api.MaxPrice}}, 1, 2 * maxQty * api.MaxPrice},
	} {
		prices := make([]int64, len(x.positions))
		for i := range prices {
			prices[i] = int64(10 + i)
		}
		h := newHouse(t, house.Config{Members: 2, Months: len(prices), Prices: prices, Moves: x.moves})
		for range 3 {
			deposit(t, h, api.MaxMoney, api.MaxMoney)
		}
		for month, p := range x.positions {
			if p > 0 {
				trade(t, h, 1, 2, month, p)
			} else {
				trade(t, h, 2, 1, month, -p)
			}
		}
		wantWorst(t, h, 1, x.scenario, x.loss)
		wantMargin(t, h, 1, x.loss)
	}
}

// P9.7: the rate counts the sizes of the positions at the prices of now, and is rounded up.
func TestMarginRate(t *testing.T) {
	for _, x := range []struct {
		rate   int64
		prices []int64
		bought []int64
		want   int64
	}{
		{0, []int64{1000}, []int64{1000}, 0},
		{1, []int64{1}, []int64{1}, 1}, // 0.001
		{1, []int64{999}, []int64{1}, 1},
		{1, []int64{1000}, []int64{1}, 1},
		{1, []int64{1001}, []int64{1}, 2},
		{1, []int64{2000}, []int64{-1}, 2},
		{1, []int64{2001}, []int64{-1}, 3},
		{250, []int64{3, 4}, []int64{5, -6}, 10}, // 39 by 4: 9.75
		{250, []int64{3, 4}, []int64{4, -7}, 10},
		{500, []int64{1, 1}, []int64{1, -1}, 1}, // rounded once, not for each month
		{500, []int64{1, 1}, []int64{1, 2}, 2},
		{1000, []int64{7, 9}, []int64{-5, 3}, 62},
		{1000, []int64{api.MaxPrice}, []int64{maxQty}, maxQty * api.MaxPrice},
	} {
		h := newHouse(t, house.Config{Members: 2, Months: len(x.prices), Prices: x.prices, Rate: x.rate})
		deposit(t, h, api.MaxMoney, api.MaxMoney)
		for month, p := range x.bought {
			if p > 0 {
				trade(t, h, 1, 2, month, p)
			} else {
				trade(t, h, 2, 1, month, -p)
			}
		}
		wantMargin(t, h, 1, x.want)
		wantMargin(t, h, 2, x.want)
		wantWorst(t, h, 1, -1, 0)
		if x.want > 0 && x.want < api.MaxMoney {
			wantOK(t, "Withdraw all but the margin", h.Withdraw(1, api.MaxMoney-x.want))
			wantNotTaken(t, h, 1, 1, api.ErrMargin)
		}
	}
}

// P9.7: the rate comes on top of the greatest loss.
func TestMarginOfBoth(t *testing.T) {
	h := newHouse(t, house.Config{Members: 2, Months: 1, Prices: []int64{101}, Moves: [][]int64{{10}, {-20}}, Rate: 10})
	deposit(t, h, 1000, 1000)
	trade(t, h, 1, 2, 0, 5)
	wantMargin(t, h, 1, 106) // 100 and 5.05
	wantMargin(t, h, 2, 56)
	mark(t, h, 0, 200)
	wantMargin(t, h, 1, 110)
	wantMargin(t, h, 2, 60)
	wantWorst(t, h, 2, 0, 50)
}

// P9.3, P9.7: a span times a rate can be beyond 64 bits, though the margin is not.
func TestMarginBeyond64Bits(t *testing.T) {
	h := newHouse(t, house.Config{Members: 2, Months: 2, Prices: []int64{api.MaxPrice, 1}, Moves: [][]int64{{-1, 0}}, Rate: 999})
	const contracts = 20000 // 2 * 10^16 at stake, times 999
	for range contracts {
		deposit(t, h, api.MaxMoney, api.MaxMoney)
		trade(t, h, 1, 2, 0, maxQty)
	}
	margin := int64(contracts) * maxQty / 1000 * 999 * api.MaxPrice
	wantMargin(t, h, 1, margin+contracts*maxQty)
	wantMargin(t, h, 2, margin)
	wantCalls(t, h)
	spare := int64(contracts)*api.MaxMoney - margin
	for spare > 0 {
		amount := min(spare, api.MaxMoney)
		wantOK(t, "Withdraw", h.Withdraw(2, amount))
		spare -= amount
	}
	wantNotTaken(t, h.Fork(), 2, 1, api.ErrMargin)
	wantCalls(t, h)
	trade(t, h, 2, 1, 0, 1) // smaller positions
	wantCalls(t, h)
}

// P9.7: what each member would miss, at the prices of the scenario.
func TestStress(t *testing.T) {
	h := newHouse(t, house.Config{Members: 4, Months: 2, Prices: []int64{100, 10}, Moves: [][]int64{{-20, 5}, {-100, -10}, {api.MaxPrice, 0}, {0, 0}}, Rate: 100})
	deposit(t, h, 500, 10000000, 40, 30)
	trade(t, h, 1, 2, 0, 3)
	trade(t, h, 3, 2, 1, 2)
	wantMargin(t, h, 1, 330) // 300 by the second scenario, and 30
	wantMargin(t, h, 3, 22)
	wantDefault(t, h, 4, house.Loss{})
	// 80, 15: 1 has 440 and needs 300 and 24; 3 has 50 and needs 20 and 3.
	wantStress(t, h, 0, 0, 0, 0, 0)
	// 1, 1 instead of 0, 0: 1 has 203 and needs 300 and 0.3; 3 has 22 and needs 20 and 0.2.
	wantStress(t, h, 1, 98, 0, 0, 0)
	// 1000100, 10: 2 loses 3 * 10^6 and has 7 * 10^6; it needs 3 * 10^6 and a tenth of 3000320.
	wantStress(t, h, 2, 0, 0, 0, 0)
	wantStress(t, h, 3, 0, 0, 0, 0)
	for range 2 {
		wantOK(t, "Withdraw", h.Withdraw(2, 3000000))
	}
	wantStress(t, h, 2, 0, 2300032, 0, 0)
	wantNoStress(t, h)
	wantPrice(t, h, 0, 100)
	wantPrice(t, h, 1, 10)
	wantCash(t, h, 500, 4000000, 40, 30)
}

// wantNoStress asks for scenarios that there are not.
func wantNoStress(t *testing.T, h *house.House) {
	t.Helper()
	scenarios := 0
	for e := api.OK; e == api.OK; scenarios++ {
		_, e = h.Stress(scenarios)
	}
	for _, x := range outside(0, scenarios-2) {
		if l, e := h.Stress(x); len(l) != 0 || e != api.ErrNone {
			t.Errorf("Stress(%d): %v, error %d", x, l, e)
		}
	}
}

// P9.7: the cash can be negative, and less than what a scenario gains.
func TestStressOfWhoIsNotCovered(t *testing.T) {
	h := called(t) // 25, 175, at 85, with a position of 5
	mark(t, h, 0, 60)
	wantCash(t, h, -100, 1300, 1000)
	wantStress(t, h, 0, 150, 0, 0) // -50 then, and a margin of 100
	wantStress(t, h, 1, 300, 0, 0)
	wantCalls(t, h, 1)
	mark(t, h, 0, 5)
	wantStress(t, h, 1, 495, 0, 0) // at 1, not at -15: -395
	wantNoStress(t, newHouse(t, house.Config{Members: 2, Months: 1, Prices: []int64{1}}))
}

// P9.7: members, months and contracts that there are not.
func TestNoSuchThing(t *testing.T) {
	h := example(t)
	for _, member := range outside(1, 3) {
		wantRefused(t, "Account", h, api.ErrNone, func() (any, api.Errno) {
			a, e := h.Account(member)
			if len(a.Positions) != 0 || a.Cash != 0 || a.Fund != 0 || a.Out {
				t.Errorf("Account(%d): %+v", member, a)
			}
			return nil, e
		})
		wantRefused(t, "Margin", h, api.ErrNone, func() (any, api.Errno) { return h.Margin(member) })
		wantRefused(t, "Worst", h, api.ErrNone, func() (any, api.Errno) {
			s, l, e := h.Worst(member)
			return max(int64(s), -int64(s), l, -l), e
		})
	}
	for _, month := range outside(0, 0) {
		wantRefused(t, "Price", h, api.ErrNone, func() (any, api.Errno) { return h.Price(month) })
	}
	for _, n := range outside(1, 1) {
		wantRefused(t, "Contract", h, api.ErrNone, func() (any, api.Errno) {
			c, e := h.Contract(n)
			if c != (house.Contract{}) {
				t.Errorf("Contract(%d): %+v", n, c)
			}
			return nil, e
		})
	}
	wantNoStress(t, h)
}

// P9.7: the members that are not covered, rising, without those that are out.
func TestCalls(t *testing.T) {
	h := newHouse(t, house.Config{Members: 5, Months: 1, Prices: []int64{100}, Moves: [][]int64{{-10}}})
	deposit(t, h, 100, 100, 1000, 100, 0)
	trade(t, h, 1, 3, 0, 10)
	trade(t, h, 2, 3, 0, 9)
	trade(t, h, 4, 3, 0, 10)
	wantCalls(t, h)
	mark(t, h, 0, 99) // 90 of 100, 91 of 90, 90 of 100
	wantCalls(t, h, 1, 4)
	wantOK(t, "Deposit", h.Deposit(4, 10))
	wantCalls(t, h, 1)
	mark(t, h, 0, 80)
	wantCalls(t, h, 1, 2, 4)
	wantDefault(t, h, 2, house.Loss{Gains: 80})
	wantCalls(t, h, 1, 4)
}

// P9.8: calls of a nil House.
func TestNil(t *testing.T) {
	var h *house.House
	errorOf := func(got any, e api.Errno) api.Errno {
		switch x := got.(type) {
		case int:
			got = x != 0
		case int64:
			got = x != 0
		case []int:
			got = len(x) != 0
		case []int64:
			got = len(x) != 0
		case house.Loss:
			got = x != house.Loss{}
		case house.Contract:
			got = x != house.Contract{}
		case house.Account:
			got = len(x.Positions) != 0 || x.Cash != 0 || x.Fund != 0 || x.Out
		}
		if got != false {
			t.Errorf("there is a result next to error %d", e)
		}
		return e
	}
	trade := func(c house.Contract) api.Errno { n, e := h.Trade(c); return errorOf(n, e) }
	mark := func(month int, price int64) api.Errno { l, e := h.Mark(month, price); return errorOf(l, e) }
	for _, i := range []int{-1, 0, 1, 2, 1000000000} {
		loss, e1 := h.Default(i)
		account, e2 := h.Account(i)
		margin, e3 := h.Margin(i)
		scenario, most, e4 := h.Worst(i)
		price, e5 := h.Price(i)
		c, e6 := h.Contract(i)
		stress, e7 := h.Stress(i)
		errors := map[string]api.Errno{
			"Deposit": h.Deposit(i, 1), "Withdraw": h.Withdraw(i, 1), "Contribute": h.Contribute(i, 1),
			"Deposit of nothing": h.Deposit(i, 0), "Withdraw of nothing": h.Withdraw(i, 0), "Contribute of nothing": h.Contribute(i, 0),
			"Trade": trade(contract(1, 2, 0, 1, 1)), "Trade of nothing": trade(house.Contract{}), "Trade with": trade(contract(i, 2, 0, 1, 1)),
			"Deliver": h.Deliver(1, 2, i, 1), "Deliver with": h.Deliver(i, i, 0, 0),
			"Mark": mark(i, 1), "Mark to nothing": mark(i, 0),
			"Default": errorOf(loss, e1), "Account": errorOf(account, e2), "Margin": errorOf(margin, e3), "Worst": errorOf(scenario, e4),
			"Worst, the loss": errorOf(most, e4), "Price": errorOf(price, e5), "Contract": errorOf(c, e6), "Stress": errorOf(stress, e7),
		}
		for call, e := range errors {
			if e != api.ErrNil {
				t.Errorf("%s with %d: error %d", call, i, e)
			}
		}
	}
	wantCalls(t, h)
	wantCapital(t, h, 0, 0)
	wantTotal(t, h, 0)
	if f := h.Fork(); f != nil {
		t.Errorf("Fork: %v", f)
	}
}
