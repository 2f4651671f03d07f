package board_test

import (
	"testing"

	"oast/api"
	"oast/board"
)

// P2.2: Cancel takes an order off that rests or waits, with what is left of it.
func TestCancel(t *testing.T) {
	b := board.New()
	wantEntered(t, b, withPeak(limit(1, sell, 50, 7), 2), 1, rested(1, 50, 7))
	wantEntered(t, b, limit(2, sell, 50, 2), 2, rested(2, 50, 2))
	wantEntered(t, b, limit(3, sell, 50, 2), 3, rested(3, 50, 2))
	wantEntered(t, b, withStop(market(4, buy, 9), 60), 4, told(board.Waits, 4, 9))
	wantEntered(t, b, limit(5, buy, 50, 1), 5, traded(5, 1, 50, 1))
	wantCancelled(t, b, 2, 2, 2)
	wantQueue(t, b, sell, 50, 1, 3)
	wantBest(t, b, sell, 50, 3)
	wantCancelled(t, b, 1, 1, 6)
	wantQueue(t, b, sell, 50, 3)
	wantCancelled(t, b, 3, 3, 2)
	wantNoBest(t, b, sell)
	wantCancelled(t, b, 4, 4, 9)
	wantNumbers(t, "Orders()", b.Orders())
	wantLast(t, b, 50)
}

// P2.2, P2.3: an order that neither rests nor waits is none; this comes before whose it is.
func TestNoSuchOrder(t *testing.T) {
	b := board.New()
	wantEntered(t, b, limit(1, sell, 50, 1), 1, rested(1, 50, 1))
	wantEntered(t, b, limit(2, sell, 51, 1), 2, rested(2, 51, 1))
	wantEntered(t, b, limit(3, buy, 50, 1), 3, traded(3, 1, 50, 1))
	wantEntered(t, b, withForce(limit(3, buy, 50, 1), board.Now), 4, told(board.Cancelled, 4, 1))
	wantEntered(t, b, withStop(limit(3, sell, 90, 1), 50), 5, told(board.Waits, 5, 1), told(board.Triggered, 5, 1), rested(5, 90, 1))
	wantCancelled(t, b, 5, 3, 1)
	for _, number := range append([]int64{1, 3, 4, 5}, outside(1, 5)...) {
		for _, member := range []int{0, 1, 3} {
			wantNotCancelled(t, b, int(number), member, api.ErrNone)
			wantNotAmended(t, b, int(number), member, 0, 0, api.ErrNone)
		}
	}
}

// P2.2, P2.3: an order belongs to the member that entered it.
func TestOwner(t *testing.T) {
	b := board.New()
	wantEntered(t, b, limit(1, sell, 50, 5), 1, rested(1, 50, 5))
	wantEntered(t, b, withStop(limit(1, sell, 50, 5), 40), 2, told(board.Waits, 2, 5))
	for _, member := range append([]int64{2, 0}, outside(1, api.MaxMember)...) {
		for number := 1; number <= 2; number++ {
			wantNotCancelled(t, b, number, int(member), api.ErrOwner)
			wantNotAmended(t, b, number, int(member), 50, 4, api.ErrOwner)
			wantNotAmended(t, b, number, int(member), 0, 0, api.ErrOwner)
		}
	}
}

// P2.3: an order that waits is not amended; this comes before the arguments.
func TestAmendWaiting(t *testing.T) {
	b := board.New()
	wantEntered(t, b, withStop(limit(1, sell, 50, 5), 40), 1, told(board.Waits, 1, 5))
	wantNotAmended(t, b, 1, 1, 50, 4, api.ErrState)
	wantNotAmended(t, b, 1, 1, 0, 0, api.ErrState)
}

// P2.3: the price and the quantity are in their ranges.
func TestAmendArguments(t *testing.T) {
	b := board.New()
	wantEntered(t, b, limit(1, sell, 50, 5), 1, rested(1, 50, 5))
	for _, price := range outside(1, api.MaxPrice) {
		wantNotAmended(t, b, 1, 1, price, 5, api.ErrArg)
	}
	for _, qty := range outside(1, api.MaxQty) {
		wantNotAmended(t, b, 1, 1, 50, qty, api.ErrArg)
	}
	wantAmended(t, b, 1, 1, api.MaxPrice, api.MaxQty, rested(1, api.MaxPrice, api.MaxQty))
	wantAmended(t, b, 1, 1, 1, 1, rested(1, 1, 1))
}

// P2.3: an order that becomes smaller keeps its place. The hidden part goes first.
func TestAmendInPlace(t *testing.T) {
	b := board.New()
	o := withForce(withPeak(limit(1, sell, 50, 9), 4), board.Post)
	wantEntered(t, b, o, 1, rested(1, 50, 9))
	wantEntered(t, b, limit(2, sell, 50, 1), 2, rested(2, 50, 1))
	wantEntered(t, b, limit(3, buy, 50, 1), 3, traded(3, 1, 50, 1))
	for _, c := range []struct{ qty, shown int64 }{{8, 3}, {7, 3}, {4, 3}, {3, 3}, {2, 2}, {1, 1}, {1, 1}} {
		wantAmended(t, b, 1, 1, 50, c.qty)
		wantStatus(t, b, 1, board.Status{Order: o, Left: c.qty, Shown: c.shown})
		wantBest(t, b, sell, 50, c.shown+1)
		wantQueue(t, b, sell, 50, 1, 2)
	}
	wantEntered(t, b, limit(3, buy, 50, 2), 4, traded(4, 1, 50, 1), traded(4, 2, 50, 1))
}

// P2.3: what was taken away from the hidden part is not renewed.
func TestAmendHidden(t *testing.T) {
	b := board.New()
	wantEntered(t, b, withPeak(limit(1, sell, 50, 9), 4), 1, rested(1, 50, 9))
	wantAmended(t, b, 1, 1, 50, 5)
	wantEntered(t, b, limit(2, buy, 50, 9), 2, traded(2, 1, 50, 4), traded(2, 1, 50, 1), rested(2, 50, 4))
}

// P2.3: with another price, or more than is left, an order goes to the end of a queue.
func TestAmendAnew(t *testing.T) {
	b := board.New()
	wantEntered(t, b, limit(1, sell, 50, 5), 1, rested(1, 50, 5))
	wantEntered(t, b, limit(2, sell, 50, 5), 2, rested(2, 50, 5))
	wantEntered(t, b, limit(3, sell, 51, 5), 3, rested(3, 51, 5))
	wantAmended(t, b, 1, 1, 50, 6, rested(1, 50, 6))
	wantQueue(t, b, sell, 50, 2, 1)
	wantStatus(t, b, 1, board.Status{Order: limit(1, sell, 50, 6), Left: 6, Shown: 6})
	wantAmended(t, b, 2, 2, 51, 5, rested(2, 51, 5))
	wantQueue(t, b, sell, 50, 1)
	wantQueue(t, b, sell, 51, 3, 2)
	wantAmended(t, b, 3, 3, 49, 1, rested(3, 49, 1))
	wantStatus(t, b, 3, board.Status{Order: limit(3, sell, 49, 1), Left: 1, Shown: 1})
	wantBest(t, b, sell, 49, 1)
}

// P2.3: after a trade it is what is left, not the quantity, that decides whether an order keeps its place.
func TestAmendMoreThanIsLeft(t *testing.T) {
	b := board.New()
	wantEntered(t, b, limit(1, sell, 50, 5), 1, rested(1, 50, 5))
	wantEntered(t, b, limit(2, sell, 50, 5), 2, rested(2, 50, 5))
	wantEntered(t, b, limit(3, buy, 50, 2), 3, traded(3, 1, 50, 2))
	wantAmended(t, b, 1, 1, 50, 4, rested(1, 50, 4))
	wantQueue(t, b, sell, 50, 2, 1)
}

// P2.3: the peak is kept, but for what is more than the quantity; an order without one stays so.
func TestAmendPeak(t *testing.T) {
	b := board.New()
	wantEntered(t, b, withPeak(limit(1, sell, 50, 9), 4), 1, rested(1, 50, 9))
	wantAmended(t, b, 1, 1, 51, 8, rested(1, 51, 8))
	wantStatus(t, b, 1, board.Status{Order: withPeak(limit(1, sell, 51, 8), 4), Left: 8, Shown: 4})
	wantAmended(t, b, 1, 1, 50, 3, rested(1, 50, 3))
	wantStatus(t, b, 1, board.Status{Order: withPeak(limit(1, sell, 50, 3), 3), Left: 3, Shown: 3})
	wantAmended(t, b, 1, 1, 50, 7, rested(1, 50, 7))
	wantStatus(t, b, 1, board.Status{Order: withPeak(limit(1, sell, 50, 7), 3), Left: 7, Shown: 3})
}

// P2.3: an order that comes in again trades at once, of Force Post too, and stops follow.
func TestAmendTrades(t *testing.T) {
	b := board.New()
	wantEntered(t, b, limit(1, sell, 50, 3), 1, rested(1, 50, 3))
	wantEntered(t, b, withForce(limit(2, buy, 48, 5), board.Post), 2, rested(2, 48, 5))
	wantEntered(t, b, withStop(limit(4, buy, 60, 1), 50), 3, told(board.Waits, 3, 1))
	wantAmended(t, b, 2, 2, 50, 5, traded(2, 1, 50, 3), rested(2, 50, 2), told(board.Triggered, 3, 1), rested(3, 60, 1))
	wantStatus(t, b, 2, board.Status{Order: limit(2, buy, 50, 5), Left: 2, Shown: 2})
	wantEntered(t, b, limit(2, sell, 70, 4), 4, rested(4, 70, 4))
	wantAmended(t, b, 4, 2, 50, 1, traded(4, 3, 60, 1))
	wantNumbers(t, "Orders()", b.Orders(), 2)
	wantEntered(t, b, limit(2, sell, 51, 1), 5, rested(5, 51, 1))
	wantAmended(t, b, 5, 2, 50, 2, told(board.Removed, 2, 2), rested(5, 50, 2))
}

// P2.3: an order that had a stop comes in again without it.
func TestAmendTriggered(t *testing.T) {
	b := board.New()
	wantEntered(t, b, limit(1, sell, 50, 1), 1, rested(1, 50, 1))
	wantEntered(t, b, withStop(withForce(limit(2, buy, 40, 1), board.Post), 50), 2, told(board.Waits, 2, 1))
	wantEntered(t, b, limit(3, buy, 50, 1), 3, traded(3, 1, 50, 1), told(board.Triggered, 2, 1), rested(2, 40, 1))
	wantAmended(t, b, 2, 2, 40, 1)
	wantStatus(t, b, 2, board.Status{Order: withStop(withForce(limit(2, buy, 40, 1), board.Post), 50), Left: 1, Shown: 1})
	wantAmended(t, b, 2, 2, 41, 1, rested(2, 41, 1))
	wantStatus(t, b, 2, board.Status{Order: limit(2, buy, 41, 1), Left: 1, Shown: 1})
}
