package house_test

import (
	"testing"

	"oast/api"
	"oast/house"
)

// P9.5: each member gets what its position gained; who is not covered then is returned.
func TestMark(t *testing.T) {
	h := newHouse(t, house.Config{Members: 4, Months: 2, Prices: []int64{100, 50}, Moves: [][]int64{{-10, 0}, {10, 0}}})
	deposit(t, h, 30, 30, 60, 60)
	trade(t, h, 1, 3, 0, 3)
	trade(t, h, 2, 4, 0, 2)
	trade(t, h, 3, 2, 1, 7)
	wantMarked(t, h, 0, 100)   // the same price
	wantMarked(t, h, 0, 99, 1) // 1 has 27 and needs 30
	wantMarked(t, h, 0, 95, 1) // 2 has 20 and needs 20
	wantMarked(t, h, 1, 51, 1, 2)
	wantCash(t, h, 15, 13, 82, 70)
	wantMarked(t, h, 1, 40, 1, 3) // 3 has 5 and needs 30
	wantCash(t, h, 15, 90, 5, 70)
	wantPrice(t, h, 0, 95)
	wantPrice(t, h, 1, 40)
	wantMarked(t, h, 0, 1, 1, 2)
	wantCash(t, h, -267, -98, 287, 258)
	wantMarked(t, h, 0, api.MaxPrice, 3, 4)
	wantPositions(t, h, 0, 3, 2, -3, -2)
	wantPositions(t, h, 1, 0, -7, 7, 0)
	wantTotal(t, h, 180)
}

// P9.5: what is refused.
func TestMarkRefused(t *testing.T) {
	h := example(t)
	for _, month := range outside(0, 0) {
		wantNotMarked(t, h, month, 100, api.ErrNone)
		wantNotMarked(t, h, month, 0, api.ErrNone)
	}
	for _, price := range outside64(1, api.MaxPrice) {
		wantNotMarked(t, h, 0, price, api.ErrArg)
	}
}

// P9.6: what is refused.
func TestDefaultRefused(t *testing.T) {
	h := example(t)
	for _, member := range outside(1, 3) {
		wantNoDefault(t, h, member, api.ErrNone)
	}
	wantDefault(t, h, 2, house.Loss{})
	wantNoDefault(t, h, 2, api.ErrState)
	wantAccount(t, h, 1, 100, 0, 0)
}

// P9.6: who defaults with cash keeps it, and its contribution. Its positions go all the same, at no cost.
func TestDefaultWithCash(t *testing.T) {
	for _, cash := range []int64{0, 13} {
		h := free(t, 3, 100, 100, 50)
		contribute(t, h, 5, 6, 7)
		deposit(t, h, cash, 20, 30)
		trade(t, h, 1, 2, 0, 4)
		trade(t, h, 3, 1, 1, 2)
		wantDefault(t, h, 1, house.Loss{})
		wantCash(t, h, cash, 20, 30)
		wantFunds(t, h, 5, 6, 7)
		wantPositions(t, h, 0, 0, 0, 0)
		wantPositions(t, h, 1, 0, 0, 0)
		wantCapital(t, h, 100, 0)
		if a, _ := h.Account(1); !a.Out {
			t.Error("member 1 is not out")
		}
		if a, _ := h.Account(2); a.Out {
			t.Error("member 2 is out")
		}
	}
}

// book makes the positions of a month what they are to be, by contracts with the first member.
func book(t *testing.T, h *house.House, month int, positions ...int64) {
	t.Helper()
	for i, p := range positions[1:] {
		if p > 0 {
			trade(t, h, i+2, 1, month, p)
		} else if p < 0 {
			trade(t, h, 1, i+2, month, -p)
		}
	}
	wantPositions(t, h, month, positions...)
}

// P9.6: positions are dealt out in proportion, rounded by the greatest remainders, of equal ones the lesser member first.
func TestTakingOver(t *testing.T) {
	for _, x := range []struct {
		positions []int64
		member    int
		want      []int64
	}{
		{[]int64{5, -5, 0}, 1, []int64{0, 0, 0}},
		{[]int64{5, -10, 5}, 1, []int64{0, -5, 5}}, // who has the same sign takes nothing
		{[]int64{5, -10, 5}, 2, []int64{0, 0, 0}},  // each takes its own one
		{[]int64{4, -6, -2, 4}, 1, []int64{0, -3, -1, 4}},
		{[]int64{3, -4, -4, 5}, 1, []int64{0, -2, -3, 5}}, // 1.5 each: the lesser member takes more
		{[]int64{-3, 4, 4, -5}, 1, []int64{0, 2, 3, -5}},  // the same with the other sign
		{[]int64{2, -1, -1, -1, 1}, 1, []int64{0, 0, 0, -1, 1}},
		{[]int64{1, -1, -1, -1, 2}, 1, []int64{0, 0, -1, -1, 2}},
		{[]int64{1, -2, -3, -2, 6}, 1, []int64{0, -2, -2, -2, 6}}, // 2/7, 3/7, 2/7
		{[]int64{5, -3, -3, -4, 5}, 1, []int64{0, -1, -2, -2, 5}}, // 1.5, 1.5, 2
		{[]int64{7, -1, -4, -5, 3}, 1, []int64{0, 0, -1, -2, 3}},  // 0.7, 2.8, 3.5
		{[]int64{6, -1, -1, -9, 5}, 1, []int64{0, 0, -1, -4, 5}},  // 6/11, 6/11, 54/11: 4 and one more, and one for the first of the others
		{[]int64{-9, 1, 1, 9, -2}, 5, []int64{-9, 1, 1, 7, 0}},    // 2/11, 2/11, 18/11: 1, and one more
		{[]int64{1000000, -999999, -1, 0}, 1, []int64{0, 0, 0, 0}},
		{[]int64{1000000, -1000000, -1, 1}, 4, []int64{1000000, -999999, -1, 0}},
	} {
		h := free(t, len(x.positions), 0, 30, 100)
		book(t, h, 1, x.positions...)
		deposit(t, h, 7, 8)
		wantDefault(t, h, x.member, house.Loss{})
		wantPositions(t, h, 1, x.want...)
		wantCash(t, h, append([]int64{7, 8}, make([]int64, len(x.positions)-2)...)...)
	}
}

// P9.6: each month is dealt out by itself.
func TestTakingOverMonths(t *testing.T) {
	h := free(t, 4, 0, 10, 20, 30)
	book(t, h, 0, 3, -4, -4, 5)
	book(t, h, 1, -2, 5, -3, 0)
	book(t, h, 2, 0, 5, -3, -2)
	wantDefault(t, h, 1, house.Loss{})
	wantPositions(t, h, 0, 0, -2, -3, 5)
	wantPositions(t, h, 1, 0, 3, -3, 0)
	wantPositions(t, h, 2, 0, 5, -3, -2)
	wantDefault(t, h, 2, house.Loss{})
	wantPositions(t, h, 0, 0, 0, -3, 3)
	wantPositions(t, h, 1, 0, 0, 0, 0)
	wantPositions(t, h, 2, 0, 0, 0, 0)
}

// P9.6: products beyond 64 bits: 6 * 10^9 of (9 * 10^9 + 1) and 3 * 10^9.
func TestTakingOverMuch(t *testing.T) {
	h := free(t, 4, 0, 1)
	book(t, h, 0, 6000000000, -9000000001, -3000000000, 6000000001)
	wantDefault(t, h, 1, house.Loss{})
	// 6 * 10^9 * 3 * 10^9 / (12 * 10^9 + 1) is 1499999999.875
	wantPositions(t, h, 0, 0, -4500000001, -1500000000, 6000000001)
}

// broken is a house of five members in which member 1 has so much less than nothing, and a contribution of 10.
func broken(t *testing.T, loss, capital int64) *house.House {
	t.Helper()
	h := free(t, 5, capital, 1, 1)
	contribute(t, h, 10)
	trade(t, h, 5, 1, 0, loss) // member 5 is the one that gains
	mark(t, h, 0, 2)
	wantOK(t, "Withdraw", h.Withdraw(5, loss))
	wantCash(t, h, -loss, 0, 0, 0, 0)
	return h
}

// P9.6, P9.11: the sources, one after the other.
func TestWaterfall(t *testing.T) {
	for _, x := range []struct {
		loss    int64
		want    house.Loss
		own     int64
		capital int64
		hole    int64
		funds   [3]int64
		cash    [3]int64
	}{
		{1, house.Loss{Own: 1}, 9, 20, 0, [3]int64{4, 0, 8}, [3]int64{30, 0, 10}},
		{10, house.Loss{Own: 10}, 0, 20, 0, [3]int64{4, 0, 8}, [3]int64{30, 0, 10}},
		{11, house.Loss{Own: 10, Capital: 1}, 0, 19, 0, [3]int64{4, 0, 8}, [3]int64{30, 0, 10}},
		{30, house.Loss{Own: 10, Capital: 20}, 0, 0, 0, [3]int64{4, 0, 8}, [3]int64{30, 0, 10}},
		{31, house.Loss{Own: 10, Capital: 20, Funds: 1}, 0, 0, 0, [3]int64{4, 0, 7}, [3]int64{30, 0, 10}},
		{32, house.Loss{Own: 10, Capital: 20, Funds: 2}, 0, 0, 0, [3]int64{3, 0, 7}, [3]int64{30, 0, 10}},
		{34, house.Loss{Own: 10, Capital: 20, Funds: 4}, 0, 0, 0, [3]int64{3, 0, 5}, [3]int64{30, 0, 10}},
		{41, house.Loss{Own: 10, Capital: 20, Funds: 11}, 0, 0, 0, [3]int64{0, 0, 1}, [3]int64{30, 0, 10}},
		{42, house.Loss{Own: 10, Capital: 20, Funds: 12}, 0, 0, 0, [3]int64{}, [3]int64{30, 0, 10}},
		{43, house.Loss{Own: 10, Capital: 20, Funds: 12, Gains: 1}, 0, 0, 0, [3]int64{}, [3]int64{29, 0, 10}},
		{44, house.Loss{Own: 10, Capital: 20, Funds: 12, Gains: 2}, 0, 0, 0, [3]int64{}, [3]int64{28, 0, 10}},
		{45, house.Loss{Own: 10, Capital: 20, Funds: 12, Gains: 3}, 0, 0, 0, [3]int64{}, [3]int64{28, 0, 9}},
		{81, house.Loss{Own: 10, Capital: 20, Funds: 12, Gains: 39}, 0, 0, 0, [3]int64{}, [3]int64{1, 0, 0}},
		{82, house.Loss{Own: 10, Capital: 20, Funds: 12, Gains: 40}, 0, 0, 0, [3]int64{}, [3]int64{}},
		{83, house.Loss{Own: 10, Capital: 20, Funds: 12, Gains: 40, Hole: 1}, 0, 0, 1, [3]int64{}, [3]int64{}},
		{1000, house.Loss{Own: 10, Capital: 20, Funds: 12, Gains: 40, Hole: 918}, 0, 0, 918, [3]int64{}, [3]int64{}},
	} {
		h := broken(t, x.loss, 20)
		contribute(t, h, 0, 4, 0, 8)
		deposit(t, h, 0, 30, 0, 10)
		total := h.Total()
		wantDefault(t, h, 1, x.want)
		wantAccount(t, h, 1, 0, x.own, 0, 0)
		wantCapital(t, h, x.capital, x.hole)
		wantFunds(t, h, x.own, x.funds[0], x.funds[1], x.funds[2], 0)
		wantCash(t, h, 0, x.cash[0], x.cash[1], x.cash[2], 0)
		wantTotal(t, h, total)
	}
}

// P9.6: shares of contributions and of cash are rounded by the greatest remainders, of equal ones the lesser member first.
func TestWaterfallShares(t *testing.T) {
	for _, x := range []struct {
		loss       int64
		from, left []int64 // of members 2, 3, 4, 5
	}{
		{1, []int64{3, 3, 3, 3}, []int64{2, 3, 3, 3}},
		{2, []int64{3, 3, 3, 3}, []int64{2, 2, 3, 3}},
		{3, []int64{3, 3, 3, 0}, []int64{2, 2, 2, 0}},
		{5, []int64{0, 4, 2, 4}, []int64{0, 2, 1, 2}},
		{6, []int64{1, 1, 9, 0}, []int64{0, 1, 4, 0}}, // 6/11, 6/11, 54/11
		{2, []int64{1, 1, 9, 0}, []int64{1, 1, 7, 0}}, // 2/11, 2/11, 18/11
		{3, []int64{5, 4, 5, 0}, []int64{4, 3, 4, 0}}, // 15/14, 12/14, 15/14
		{999999999999, []int64{api.MaxMoney, api.MaxMoney, 1, 0}, []int64{500000000001, 500000000001, 0, 0}},
		{333333333333, []int64{api.MaxMoney, api.MaxMoney - 1, api.MaxMoney - 2, 0}, []int64{888888888889, 888888888888, 888888888887, 0}},
	} {
		loss := house.Loss{Own: 10, Funds: x.loss}
		left := append([]int64{0}, x.left...)
		h := broken(t, 10, 0)
		lose(t, h, x.loss)
		contribute(t, h, append([]int64{0}, x.from...)...)
		wantDefault(t, h, 1, loss)
		wantFunds(t, h, left...)
		wantCash(t, h, 0, 0, 0, 0, 0)

		h = broken(t, 10, 0)
		lose(t, h, x.loss)
		deposit(t, h, append([]int64{0}, x.from...)...)
		wantDefault(t, h, 1, house.Loss{Own: 10, Gains: x.loss})
		wantCash(t, h, left...)
		wantFunds(t, h, 0, 0, 0, 0, 0)
	}
}

// lose makes member 1 lose an amount more, which leaves the house.
func lose(t *testing.T, h *house.House, amount int64) {
	t.Helper()
	a, e := h.Account(1)
	wantOK(t, "Account", e)
	qty := int64(maxQty)
	for left := amount; left > 0; {
		price := min(left, api.MaxPrice-2) // the month's price is 2
		qty = min(left/price, maxQty)
		mark(t, h, 1, 1)
		trade(t, h, 5, 1, 1, qty)
		mark(t, h, 1, 1+price)
		trade(t, h, 1, 5, 1, qty)
		wantOK(t, "Withdraw", h.Withdraw(5, qty*price))
		left -= qty * price
	}
	after, e := h.Account(1)
	wantOK(t, "Account", e)
	if after.Cash != a.Cash-amount {
		t.Fatalf("the cash is %d, was %d", after.Cash, a.Cash)
	}
}

// P9.6, P9.11: cash that is not above 0 gives nothing, and gets nothing.
func TestGainsOfWhoHasNone(t *testing.T) {
	h := free(t, 4, 0, 100)
	book(t, h, 0, 10, -30, 10, 10)
	deposit(t, h, 0, 0, 0, 50)
	contribute(t, h, 0, 7, 8, 9)
	mark(t, h, 0, 90) // -100, 300, -100, -50
	wantCash(t, h, -100, 300, -100, -50)
	wantDefault(t, h, 1, house.Loss{Funds: 24, Gains: 76})
	wantCash(t, h, 0, 224, -100, -50)
	wantDefault(t, h, 3, house.Loss{Gains: 100})
	wantDefault(t, h, 4, house.Loss{Gains: 50})
	wantCash(t, h, 0, 74, 0, 0)
	wantTotal(t, h, 74)
}

// P9.6: what is with those that are out is not touched by later defaults, nor are their positions.
func TestOutIsOut(t *testing.T) {
	h := free(t, 4, 0, 100)
	contribute(t, h, 40, 50, 0, 1)
	deposit(t, h, 5, 6)
	wantDefault(t, h, 2, house.Loss{}) // with a contribution of 50 and 6 of cash
	book(t, h, 0, -10, 0, 6, 4)
	mark(t, h, 0, 90) // 105, 6, -60, -40
	wantDefault(t, h, 3, house.Loss{Funds: 41, Gains: 19})
	wantFunds(t, h, 0, 50, 0, 0)
	wantCash(t, h, 86, 6, 0, -40)
	wantPositions(t, h, 0, -4, 0, 0, 4)
	wantDefault(t, h, 4, house.Loss{Gains: 40})
	wantCash(t, h, 46, 6, 0, 0)
	wantDefault(t, h, 1, house.Loss{}) // the last one
	wantAccount(t, h, 1, 46, 0, 0)
	wantAccount(t, h, 2, 6, 50, 0)
	wantTotal(t, h, 102)
	mark(t, h, 0, 50)
	wantCash(t, h, 46, 6, 0, 0)
	wantCalls(t, h)
	for member := range 4 {
		wantNoDefault(t, h, member+1, api.ErrState)
	}
}

// P9.6: the hole grows from default to default. A member that is left alone has nobody to pay for it.
func TestHole(t *testing.T) {
	h := free(t, 3, 5, 100)
	book(t, h, 0, -20, 10, 10)
	mark(t, h, 0, 90)
	wantOK(t, "Withdraw", h.Withdraw(1, 190))
	wantDefault(t, h, 2, house.Loss{Capital: 5, Gains: 10, Hole: 85})
	wantCapital(t, h, 0, 85)
	wantDefault(t, h, 3, house.Loss{Hole: 100})
	wantCapital(t, h, 0, 185)
	wantTotal(t, h, -185)
	wantPositions(t, h, 0, 0, 0, 0)
	wantDefault(t, h, 1, house.Loss{})
	wantCash(t, h, 0, 0, 0)

	h = free(t, 2, 0, 100) // both lose by turns
	book(t, h, 0, -10, 10)
	mark(t, h, 0, 90)
	wantOK(t, "Withdraw", h.Withdraw(1, 100))
	mark(t, h, 0, 110)
	wantOK(t, "Withdraw", h.Withdraw(2, 100))
	wantCash(t, h, -200, 0)
	wantDefault(t, h, 2, house.Loss{})
	wantDefault(t, h, 1, house.Loss{Hole: 200})
}

// P9.7: the chapter's third example.
func TestStressExample(t *testing.T) {
	h := example(t)
	wantStress(t, h, 0, 0, 0, 0)
	wantStress(t, h, 1, 100, 0, 0)
	wantCash(t, h, 100, 100, 0)
	wantPrice(t, h, 0, 100)
}
