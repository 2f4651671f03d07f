package board_test

import (
	"math"
	"testing"

	"oast/api"
	"oast/board"
)

// small returns a board with orders on both sides: sellers at 50 (8, of which 5 are shown) and 52, buyers at 48 and 47, and two that wait.
func small(t *testing.T) *board.Board {
	t.Helper()
	b := board.New()
	for _, o := range []board.Order{
		limit(1, sell, 52, 4),
		withStop(limit(1, buy, 40, 2), 60),
		withPeak(limit(1, sell, 50, 5), 2),
		limit(2, sell, 50, 3),
		limit(3, buy, 47, 6),
		limit(3, buy, 48, 1),
		withStop(market(3, sell, 7), 30),
		limit(4, buy, 47, 2),
	} {
		if _, _, e := b.Enter(o); e != api.OK {
			t.Fatalf("Enter(%v): error %d", o, e)
		}
	}
	return b
}

var notSides = []int{0, -1, 3, math.MaxInt, math.MinInt}

// P2.4: Best is the best price of a side, and what is shown there.
func TestBest(t *testing.T) {
	b := small(t)
	wantBest(t, b, buy, 48, 1)
	wantBest(t, b, sell, 50, 5)
	for _, side := range notSides {
		wantNoBest(t, b, side)
	}
	wantNoBest(t, board.New(), buy)
	wantNoBest(t, board.New(), sell)
}

// P2.4: Depth begins with the best price of a side.
func TestDepth(t *testing.T) {
	b := small(t)
	buyers := []board.Level{{Price: 48, Shown: 1, Orders: 1}, {Price: 47, Shown: 8, Orders: 2}}
	sellers := []board.Level{{Price: 50, Shown: 5, Orders: 2}, {Price: 52, Shown: 4, Orders: 1}}
	for _, most := range []int{2, 3, math.MaxInt} {
		wantDepth(t, b, buy, most, buyers...)
		wantDepth(t, b, sell, most, sellers...)
	}
	wantDepth(t, b, buy, 1, buyers[0])
	wantDepth(t, b, sell, 1, sellers[0])
	for _, most := range []int{0, -1, math.MinInt} {
		wantDepth(t, b, buy, most)
		wantDepth(t, b, sell, most)
	}
	for _, side := range notSides {
		wantDepth(t, b, side, 9)
	}
	wantDepth(t, board.New(), sell, 9)
}

// P2.4: Queue is the orders at one price of one side.
func TestQueue(t *testing.T) {
	b := small(t)
	wantQueue(t, b, sell, 50, 3, 4)
	wantQueue(t, b, sell, 52, 1)
	wantQueue(t, b, buy, 47, 5, 8)
	wantQueue(t, b, buy, 48, 6)
	for _, price := range append([]int64{51, 60, 40, 0}, outside(1, api.MaxPrice)...) {
		wantQueue(t, b, sell, price)
		wantQueue(t, b, buy, price)
	}
	wantQueue(t, b, buy, 50)
	for _, side := range notSides {
		wantQueue(t, b, side, 50)
	}
}

// P2.4: Get tells an order, what is left and shown of it, and whether it waits.
func TestGet(t *testing.T) {
	b := small(t)
	wantStatus(t, b, 1, board.Status{Order: limit(1, sell, 52, 4), Left: 4, Shown: 4})
	wantStatus(t, b, 2, board.Status{Order: withStop(limit(1, buy, 40, 2), 60), Left: 2, Waits: true})
	wantStatus(t, b, 3, board.Status{Order: withPeak(limit(1, sell, 50, 5), 2), Left: 5, Shown: 2})
	wantStatus(t, b, 7, board.Status{Order: withStop(market(3, sell, 7), 30), Left: 7, Waits: true})
	wantCancelled(t, b, 1, 1, 4)
	for _, number := range append([]int64{1, 9, 0}, outside(1, 8)...) {
		if got, e := b.Get(int(number)); e != api.ErrNone || got != (board.Status{}) {
			t.Errorf("Get(%d) is %v, error %d, want error %d alone", number, got, e, api.ErrNone)
		}
	}
}

// P2.4: Stops are the orders that wait, Orders all of them.
func TestNumbersOfOrders(t *testing.T) {
	b := small(t)
	wantNumbers(t, "Stops()", b.Stops(), 2, 7)
	wantNumbers(t, "Orders()", b.Orders(), 1, 2, 3, 4, 5, 6, 7, 8)
	wantNumbers(t, "Stops()", board.New().Stops())
	wantNumbers(t, "Orders()", board.New().Orders())
	wantAmended(t, b, 1, 1, 53, 4, rested(1, 53, 4))
	wantCancelled(t, b, 2, 1, 2)
	wantCancelled(t, b, 4, 2, 3)
	wantNumbers(t, "Stops()", b.Stops(), 7)
	wantNumbers(t, "Orders()", b.Orders(), 1, 3, 5, 6, 7, 8)
}

// P2.4: Last is the price of the last trade, which is that of the order that was met.
func TestLast(t *testing.T) {
	b := small(t)
	wantLast(t, b, 0)
	wantEntered(t, b, limit(5, buy, 55, 1), 9, traded(9, 3, 50, 1))
	wantLast(t, b, 50)
	wantEntered(t, b, limit(5, sell, 40, 2), 10, traded(10, 6, 48, 1), traded(10, 5, 47, 1))
	wantLast(t, b, 47)
	wantEntered(t, b, withForce(limit(5, buy, 1, 2), board.Now), 11, told(board.Cancelled, 11, 2))
	wantLast(t, b, 47)
}

// P2.4: Cost counts what is hidden, and at most what there is.
func TestCost(t *testing.T) {
	b := small(t)
	wantCost(t, b, buy, 1, 1, 50)
	wantCost(t, b, buy, 8, 8, 400)
	wantCost(t, b, buy, 9, 9, 452)
	wantCost(t, b, buy, 12, 12, 608)
	wantCost(t, b, buy, api.MaxQty, 12, 608)
	wantCost(t, b, sell, 2, 2, 95)
	wantCost(t, b, sell, 9, 9, 424)
	wantCost(t, b, sell, 10, 9, 424)
	wantCost(t, board.New(), sell, 10, 0, 0)
	refused := func(side int, qty int64) {
		if f, m, e := b.Cost(side, qty); e != api.ErrArg || f != 0 || m != 0 {
			t.Errorf("Cost(%d, %d) is %d, %d, error %d, want error %d alone", side, qty, f, m, e, api.ErrArg)
		}
	}
	for _, side := range notSides {
		refused(side, 1)
	}
	for _, qty := range outside(1, api.MaxQty) {
		refused(buy, qty)
	}
}

// P2.4: the greatest quantity at the greatest price costs what it costs.
func TestGreatCost(t *testing.T) {
	b := board.New()
	wantEntered(t, b, limit(1, sell, api.MaxPrice, api.MaxQty), 1, rested(1, api.MaxPrice, api.MaxQty))
	wantCost(t, b, buy, api.MaxQty, api.MaxQty, api.MaxPrice*api.MaxQty)
}

// P2.4: a fork has the state, the numbers too, and neither board changes the other.
func TestFork(t *testing.T) {
	b := small(t)
	wantEntered(t, b, limit(5, buy, 50, 3), 9, traded(9, 3, 50, 2), traded(9, 4, 50, 1))
	was := stateOf(b)
	f := b.Fork()
	wantState(t, "the fork", f, was)
	wantQueue(t, f, sell, 50, 4, 3)
	wantEntered(t, f, limit(5, buy, 50, 1), 10, traded(10, 4, 50, 1))
	wantAmended(t, f, 5, 3, 49, 1, rested(5, 49, 1))
	wantCancelled(t, f, 2, 1, 2)
	wantState(t, "the board behind its fork's changes", b, was)
	was = stateOf(f)
	wantEntered(t, b, limit(5, buy, 50, 2), 10, traded(10, 4, 50, 2))
	wantCancelled(t, b, 7, 3, 7)
	wantState(t, "the fork behind the board's changes", f, was)
	wantState(t, "the fork of a new board", board.New().Fork(), stateOf(board.New()))
}

// P2.4: results are new memory.
func TestResultsAreNew(t *testing.T) {
	b := small(t)
	was := stateOf(b)
	b.Depth(sell, 9)[0] = board.Level{}
	b.Queue(sell, 50)[0] = 99
	b.Orders()[0] = 99
	b.Stops()[0] = 99
	wantState(t, "the board behind changed results", b, was)
}

// P2.5: a nil board says so.
func TestNil(t *testing.T) {
	var b *board.Board
	if n, l, e := b.Enter(board.Order{}); n != 0 || len(l) != 0 || e != api.ErrNil {
		t.Errorf("Enter: %d, %v, error %d", n, l, e)
	}
	if l, e := b.Cancel(1, 1); len(l) != 0 || e != api.ErrNil {
		t.Errorf("Cancel: %v, error %d", l, e)
	}
	if l, e := b.Amend(1, 1, 0, 0); len(l) != 0 || e != api.ErrNil {
		t.Errorf("Amend: %v, error %d", l, e)
	}
	if x, e := b.Get(1); x != (board.Status{}) || e != api.ErrNil {
		t.Errorf("Get: %v, error %d", x, e)
	}
	if f, m, e := b.Cost(0, 0); f != 0 || m != 0 || e != api.ErrNil {
		t.Errorf("Cost: %d, %d, error %d", f, m, e)
	}
	wantNoBest(t, b, buy)
	wantDepth(t, b, sell, 1)
	wantQueue(t, b, sell, 1)
	wantNumbers(t, "Stops()", b.Stops())
	wantNumbers(t, "Orders()", b.Orders())
	wantLast(t, b, 0)
	if b.Fork() != nil {
		t.Error("Fork of a nil board")
	}
}
