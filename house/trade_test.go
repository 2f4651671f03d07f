package house_test

import (
	"testing"

	"oast/api"
	"oast/house"
)

// P9.3, P9.7: the chapter's first example.
func TestExample(t *testing.T) {
	h := example(t)
	wantMargin(t, h, 1, 100)
	wantMargin(t, h, 2, 50)
	wantMargin(t, h, 3, 0)
	wantNotTraded(t, h, contract(1, 2, 0, 1, 100), api.ErrMargin)
	wantMarked(t, h, 0, 85, 1)
	wantCash(t, h, 25, 175, 0)
	wantPrice(t, h, 0, 85)
	wantMarked(t, h, 0, 70, 1)
	wantCash(t, h, -50, 250, 0)
	wantDefault(t, h, 1, house.Loss{Capital: 50})
	wantAccount(t, h, 1, 0, 0, 0)
	wantAccount(t, h, 2, 250, 0, 0)
	wantCapital(t, h, 0, 0)
	wantTotal(t, h, 250)
}

// P9.3: contracts change positions, and are marked to the month's price at once.
func TestTrade(t *testing.T) {
	h := free(t, 3, 0, 100, 50)
	deposit(t, h, 100, 100, 100)
	wantTraded(t, h, contract(1, 2, 0, 3, 90), 1)  // 1 gets 30
	wantTraded(t, h, contract(3, 1, 1, 2, 60), 2)  // 3 pays 20 to 1
	wantTraded(t, h, contract(2, 3, 0, 1, 100), 3) // nobody pays
	wantAccount(t, h, 1, 150, 0, 3, -2)
	wantAccount(t, h, 2, 70, 0, -2, 0)
	wantAccount(t, h, 3, 80, 0, -1, 2)
	mark(t, h, 0, 120)
	wantTraded(t, h, contract(2, 1, 0, 1, 110), 4) // at the price of now, 2 gets 10
	wantCash(t, h, 200, 40, 60)
	wantPositions(t, h, 0, 2, -1, -1)
	for i, want := range []house.Contract{contract(1, 2, 0, 3, 90), contract(3, 1, 1, 2, 60), contract(2, 3, 0, 1, 100), contract(2, 1, 0, 1, 110)} {
		if c, e := h.Contract(i + 1); c != want || e != api.OK {
			t.Errorf("Contract(%d): %+v, error %d, want %+v", i+1, c, e, want)
		}
	}
	wantTotal(t, h, 300)
}

// P9.3: the greatest contract.
func TestTradeMuch(t *testing.T) {
	h := free(t, 2, 0, api.MaxPrice)
	deposit(t, h, 0, api.MaxMoney)
	wantTraded(t, h, contract(1, 2, 0, maxQty, 1), 1)
	wantCash(t, h, maxQty*(api.MaxPrice-1), api.MaxMoney-maxQty*(api.MaxPrice-1))
	wantPositions(t, h, 0, maxQty, -maxQty)
	wantTraded(t, h, contract(2, 1, 0, 1, api.MaxPrice), 2)
	wantPositions(t, h, 0, maxQty-1, 1-maxQty)
}

// P9.3: what there is not, what is out of its range, and in which order.
func TestTradeRefused(t *testing.T) {
	h := example(t)
	for _, x := range outside(1, 3) {
		wantNotTraded(t, h, contract(x, 1, 0, 1, 100), api.ErrNone)
		wantNotTraded(t, h, contract(1, x, 0, 1, 100), api.ErrNone)
		wantNotTraded(t, h, contract(x, x, 0, 0, 0), api.ErrNone)
	}
	for _, x := range outside(0, 0) {
		wantNotTraded(t, h, contract(2, 1, x, 1, 100), api.ErrNone)
		wantNotTraded(t, h, contract(2, 2, x, 0, 0), api.ErrNone)
	}
	for _, x := range outside64(1, maxQty) {
		wantNotTraded(t, h, contract(2, 1, 0, x, 100), api.ErrArg)
	}
	for _, x := range outside64(1, api.MaxPrice) {
		wantNotTraded(t, h, contract(2, 1, 0, 1, x), api.ErrArg)
	}
	wantNotTraded(t, h, contract(2, 2, 0, 1, 100), api.ErrArg)
	wantNotTraded(t, h, contract(1, 2, 0, 1, 100), api.ErrMargin)
	wantDefault(t, h, 3, house.Loss{})
	wantNotTraded(t, h, contract(3, 1, 0, 1, 100), api.ErrState)
	wantNotTraded(t, h, contract(1, 3, 0, 1, 100), api.ErrState) // though the margin would not suffice
	wantNotTraded(t, h, contract(3, 3, 0, 1, 100), api.ErrArg)
	wantNotTraded(t, h, contract(3, 1, 0, 0, 100), api.ErrArg)
	wantNotTraded(t, h, contract(3, 1, 0, 1, 0), api.ErrArg)
	wantNotTraded(t, h, contract(3, 4, 0, 1, 100), api.ErrNone)
	wantTraded(t, h, contract(2, 1, 0, 1, 100), 2) // a refused contract takes no number
}

// P9.3: what is paid at once counts for being covered, on either side.
func TestTradeIsCovered(t *testing.T) {
	for _, x := range []struct {
		name          string
		buyer, seller int64
		price         int64
		want          api.Errno
	}{
		{"both have just what they need", 200, 100, 100, api.OK},
		{"the buyer lacks one", 199, 100, 100, api.ErrMargin},
		{"the seller lacks one", 200, 99, 100, api.ErrMargin},
		{"the buyer gets what it lacks", 150, 150, 95, api.OK},
		{"the buyer gets one less", 149, 151, 95, api.ErrMargin},
		{"the buyer has to pay", 250, 50, 105, api.OK},
		{"the buyer pays what it needs", 249, 51, 105, api.ErrMargin},
		{"the seller pays what it needs", 150, 149, 95, api.ErrMargin},
		{"the seller lacks one that it gets", 250, 49, 105, api.ErrMargin},
	} {
		t.Run(x.name, func(t *testing.T) {
			h := newHouse(t, house.Config{Members: 2, Months: 1, Prices: []int64{100}, Moves: [][]int64{{10}, {-20}}})
			deposit(t, h, x.buyer, x.seller)
			if x.want != api.OK {
				wantNotTraded(t, h, contract(1, 2, 0, 10, x.price), x.want)
				return
			}
			wantTraded(t, h, contract(1, 2, 0, 10, x.price), 1)
			wantCalls(t, h)
		})
	}
}

// called is a house in which member 1, who bought 5 of member 2, is not covered: it has 25 and needs 100.
func called(t *testing.T) *house.House {
	t.Helper()
	h := example(t)
	deposit(t, h, 0, 1000, 1000)
	wantMarked(t, h, 0, 85, 1)
	return h
}

// P9.3: who is not covered may trade as long as its margin does not grow and its cash does not shrink.
func TestTradeOfWhoIsNotCovered(t *testing.T) {
	for _, x := range []struct {
		c    house.Contract
		want api.Errno
	}{
		{contract(2, 1, 0, 1, 85), api.OK},        // the margin shrinks
		{contract(2, 1, 0, 1, 86), api.OK},        // and it gets something
		{contract(2, 1, 0, 1, 84), api.ErrMargin}, // it pays
		{contract(3, 1, 0, 15, 85), api.OK},       // sold 10: needs 100 too
		{contract(3, 1, 0, 16, 85), api.ErrMargin},
		{contract(3, 1, 0, 16, 91), api.OK}, // gets 96, has 121, needs 110
		{contract(3, 1, 0, 5, 85), api.OK},  // nothing is left
		{contract(1, 3, 0, 1, 85), api.ErrMargin},
		{contract(1, 3, 0, 1, 1), api.ErrMargin}, // gets 84, has 109, but needs 120
		{contract(1, 3, 0, 2, 1), api.OK},        // gets 168, has 193, needs 140: covered
	} {
		h := called(t)
		if x.want == api.OK {
			wantTraded(t, h, x.c, 2)
			continue
		}
		wantNotTraded(t, h, x.c, x.want)
	}
}

// P9.3: that one member may trade though it is not covered does not help the other one.
func TestTradeWithWhoIsNotCovered(t *testing.T) {
	h := example(t)
	wantMarked(t, h, 0, 85, 1)
	wantNotTraded(t, h, contract(3, 1, 0, 1, 85), api.ErrMargin) // 3 has nothing
	deposit(t, h, 0, 0, 19)
	wantNotTraded(t, h, contract(3, 1, 0, 1, 85), api.ErrMargin)
	deposit(t, h, 0, 0, 1)
	wantTraded(t, h, contract(3, 1, 0, 1, 85), 2)
	wantCalls(t, h, 1)
}

// P9.4: a delivery closes positions, and moves no money.
func TestDeliver(t *testing.T) {
	h := free(t, 3, 0, 100, 50)
	deposit(t, h, 10, 20, 30)
	trade(t, h, 1, 2, 1, 7)
	trade(t, h, 1, 3, 1, 2)
	trade(t, h, 3, 1, 0, 4)
	mark(t, h, 1, 55)
	wantOK(t, "Deliver", h.Deliver(1, 2, 1, 3))
	wantPositions(t, h, 1, 6, -4, -2)
	wantOK(t, "Deliver", h.Deliver(1, 2, 1, 4))
	wantOK(t, "Deliver", h.Deliver(1, 3, 1, 2))
	wantPositions(t, h, 1, 0, 0, 0)
	wantPositions(t, h, 0, -4, 0, 4)
	wantCash(t, h, 55, -15, 20)
	wantOK(t, "Deliver", h.Deliver(3, 1, 0, 4))
	wantPositions(t, h, 0, 0, 0, 0)
}

// P9.4: what there is not, what is out of its range, what does not suffice, and in which order.
func TestDeliverRefused(t *testing.T) {
	h := example(t)
	deposit(t, h, 1000, 1000, 1000)
	trade(t, h, 3, 2, 0, 3) // positions 5, -8, 3
	for _, x := range outside(1, 3) {
		wantNotDelivered(t, h, contract(x, 2, 0, 1, 0), api.ErrNone)
		wantNotDelivered(t, h, contract(1, x, 0, 1, 0), api.ErrNone)
		wantNotDelivered(t, h, contract(x, x, 0, 0, 0), api.ErrNone)
	}
	for _, x := range outside(0, 0) {
		wantNotDelivered(t, h, contract(1, 2, x, 1, 0), api.ErrNone)
	}
	for _, x := range outside64(1, maxQty) {
		wantNotDelivered(t, h, contract(1, 2, 0, x, 0), api.ErrArg)
		wantNotDelivered(t, h, contract(2, 1, 0, x, 0), api.ErrArg)
	}
	wantNotDelivered(t, h, contract(1, 1, 0, 1, 0), api.ErrArg)
	wantNotDelivered(t, h, contract(2, 2, 0, 1, 0), api.ErrArg)
	wantNotDelivered(t, h, contract(1, 2, 0, 6, 0), api.ErrFunds) // the member has 5
	wantNotDelivered(t, h, contract(1, 3, 0, 1, 0), api.ErrFunds) // the other one bought
	wantNotDelivered(t, h, contract(2, 1, 0, 1, 0), api.ErrFunds) // the wrong way round
	wantNotDelivered(t, h, contract(1, 2, 0, maxQty, 0), api.ErrFunds)
	trade(t, h, 1, 2, 0, 10) // positions 15, -18, 3
	wantOK(t, "Deliver", h.Deliver(3, 2, 0, 3))
	wantNotDelivered(t, h, contract(1, 2, 0, 16, 0), api.ErrFunds)
	trade(t, h, 3, 1, 0, 20)                                      // positions -5, -15, 20
	wantNotDelivered(t, h, contract(3, 1, 0, 6, 0), api.ErrFunds) // the other one sold 5
	wantNotDelivered(t, h, contract(3, 2, 0, 16, 0), api.ErrFunds)
	wantOK(t, "Deliver", h.Deliver(3, 1, 0, 5))
	wantDefault(t, h, 1, house.Loss{})
	wantNotDelivered(t, h, contract(1, 2, 0, 1, 0), api.ErrState)
	wantNotDelivered(t, h, contract(3, 1, 0, 1, 0), api.ErrState) // though it sold nothing any more
	wantNotDelivered(t, h, contract(1, 1, 0, 1, 0), api.ErrArg)
	wantNotDelivered(t, h, contract(3, 1, 0, 0, 0), api.ErrArg)
	wantNotDelivered(t, h, contract(3, 1, 1, 0, 0), api.ErrNone)
	wantOK(t, "Deliver", h.Deliver(3, 2, 0, 15))
}

// P9.4: margins do not matter to a delivery, also if it takes away what balanced a position.
func TestDeliverThoughNotCovered(t *testing.T) {
	h := newHouse(t, house.Config{Members: 2, Months: 2, Prices: []int64{100, 100}, Moves: [][]int64{{50, 50}, {-50, -50}}})
	deposit(t, h, 50, 50)
	trade(t, h, 1, 2, 0, 1)
	trade(t, h, 2, 1, 1, 1)
	wantMargin(t, h, 1, 0)
	wantOK(t, "Withdraw", h.Withdraw(1, 50))
	wantOK(t, "Deliver", h.Deliver(1, 2, 0, 1))
	wantMargin(t, h, 1, 50)
	wantCalls(t, h, 1)
}
