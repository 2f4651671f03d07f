package board_test

import (
	"testing"

	"oast/api"
	"oast/board"
)

// invalid returns what is wrong with an order, and such orders.
func invalid() map[string][]board.Order {
	good := limit(1, buy, 10, 5)
	l := map[string][]board.Order{}
	add := func(what string, change func(o *board.Order, n int64), numbers ...int64) {
		for _, n := range numbers {
			o := good
			change(&o, n)
			l[what] = append(l[what], o)
		}
	}
	add("member", func(o *board.Order, n int64) { o.Member = int(n) }, outside(1, api.MaxMember)...)
	add("side", func(o *board.Order, n int64) { o.Side = int(n) }, outside(1, 2)...)
	add("kind", func(o *board.Order, n int64) { o.Kind = int(n) }, outside(1, 2)...)
	add("kind without a price", func(o *board.Order, n int64) { o.Kind, o.Force, o.Price = int(n), board.Now, 0 }, outside(1, 2)...)
	add("force", func(o *board.Order, n int64) { o.Force = int(n) }, outside(1, 4)...)
	add("quantity", func(o *board.Order, n int64) { o.Qty = n }, outside(1, api.MaxQty)...)
	add("price", func(o *board.Order, n int64) { o.Price = n }, outside(1, api.MaxPrice)...)
	add("price of a market order", func(o *board.Order, n int64) { o.Kind, o.Force, o.Price = board.Market, board.Now, n }, -1, 1, 10, api.MaxPrice)
	add("force of a market order", func(o *board.Order, n int64) { o.Kind, o.Force, o.Price = board.Market, int(n), 0 }, board.Rest, board.Post, 0, 5)
	add("stop", func(o *board.Order, n int64) { o.Stop = n }, outside(0, api.MaxPrice)...)
	add("peak", func(o *board.Order, n int64) { o.Peak = n }, outside(0, 5)...)
	add("peak with another force", func(o *board.Order, n int64) { o.Peak, o.Force = 1, int(n) }, board.Now, board.All)
	add("peak of a market order", func(o *board.Order, n int64) { *o = withPeak(market(1, buy, 5), n) }, 1, 5)
	return l
}

// P2.1: an order that is not valid is refused, and uses no number.
func TestInvalidOrders(t *testing.T) {
	for what, l := range invalid() {
		t.Run(what, func(t *testing.T) {
			b := board.New()
			for _, o := range l {
				wantRefused(t, b, o, api.ErrArg)
			}
			wantEntered(t, b, limit(1, buy, 10, 5), 1, rested(1, 10, 5))
		})
	}
	wantRefused(t, board.New(), board.Order{}, api.ErrArg)
}

// P2.1: the ends of the ranges are valid.
func TestValidOrders(t *testing.T) {
	for _, o := range []board.Order{
		limit(1, buy, 1, 1),
		limit(api.MaxMember, sell, api.MaxPrice, api.MaxQty),
		withPeak(limit(1, buy, 1, api.MaxQty), 1),
		withPeak(limit(1, buy, 1, api.MaxQty), api.MaxQty),
		withForce(withPeak(limit(1, buy, 1, 5), 5), board.Post),
	} {
		wantEntered(t, board.New(), o, 1, rested(1, o.Price, o.Qty))
	}
	wantEntered(t, board.New(), withForce(limit(1, buy, 5, 4), board.Now), 1, told(board.Cancelled, 1, 4))
	wantEntered(t, board.New(), withForce(limit(1, buy, 5, 4), board.All), 1, told(board.Killed, 1, 4))
	wantEntered(t, board.New(), market(1, sell, 4), 1, told(board.Cancelled, 1, 4))
	wantEntered(t, board.New(), withForce(market(1, sell, 4), board.All), 1, told(board.Killed, 1, 4))
	wantEntered(t, board.New(), withStop(limit(1, buy, 5, 4), api.MaxPrice), 1, told(board.Waits, 1, 4))
}

// P2.1: orders get the numbers from 1 on, whatever becomes of them.
func TestNumbers(t *testing.T) {
	b := board.New()
	wantEntered(t, b, limit(1, sell, 50, 1), 1, rested(1, 50, 1))
	wantEntered(t, b, withForce(limit(2, buy, 49, 1), board.Now), 2, told(board.Cancelled, 2, 1))
	wantRefused(t, b, withForce(limit(2, buy, 50, 1), board.Post), api.ErrCross)
	wantEntered(t, b, withForce(limit(2, buy, 50, 2), board.All), 3, told(board.Killed, 3, 2))
	wantEntered(t, b, withStop(limit(2, buy, 50, 2), 60), 4, told(board.Waits, 4, 2))
	wantEntered(t, b, limit(2, buy, 50, 1), 5, traded(5, 1, 50, 1))
	wantCancelled(t, b, 4, 2, 2)
	wantEntered(t, b, limit(2, buy, 50, 1), 6, rested(6, 50, 1))
}

// P2.1: the best price of the other side decides whether an order with Force Post is refused, whose order it is does not.
func TestPost(t *testing.T) {
	b := board.New()
	wantEntered(t, b, withForce(limit(1, sell, 50, 2), board.Post), 1, rested(1, 50, 2))
	wantEntered(t, b, limit(1, sell, 52, 2), 2, rested(2, 52, 2))
	wantEntered(t, b, limit(2, buy, 40, 2), 3, rested(3, 40, 2))
	for _, member := range []int{1, 3} {
		wantRefused(t, b, withForce(limit(member, buy, 50, 1), board.Post), api.ErrCross)
		wantRefused(t, b, withForce(limit(member, buy, 51, 1), board.Post), api.ErrCross)
	}
	for _, member := range []int{2, 3} {
		wantRefused(t, b, withForce(limit(member, sell, 40, 1), board.Post), api.ErrCross)
		wantRefused(t, b, withForce(limit(member, sell, 39, 1), board.Post), api.ErrCross)
	}
	wantEntered(t, b, withForce(limit(3, buy, 49, 1), board.Post), 4, rested(4, 49, 1))
	wantEntered(t, b, withForce(limit(4, sell, 50, 1), board.Post), 5, rested(5, 50, 1))
}

// P2.1: with a stop, an order with Force Post gets a number, and is refused when it comes in.
func TestPostWithStop(t *testing.T) {
	b := board.New()
	wantEntered(t, b, limit(1, sell, 50, 3), 1, rested(1, 50, 3))
	wantEntered(t, b, withStop(withForce(limit(2, buy, 50, 2), board.Post), 50), 2, told(board.Waits, 2, 2))
	wantEntered(t, b, withStop(withForce(limit(2, buy, 49, 2), board.Post), 50), 3, told(board.Waits, 3, 2))
	wantEntered(t, b, limit(3, buy, 50, 1), 4, traded(4, 1, 50, 1),
		told(board.Triggered, 2, 2), told(board.Refused, 2, 2),
		told(board.Triggered, 3, 2), rested(3, 49, 2))
	wantNumbers(t, "Orders()", b.Orders(), 1, 3)
}

// fill brings as many orders to a board as it takes. The last one waits.
func fill(t *testing.T) *board.Board {
	t.Helper()
	b := board.New()
	for n := 1; n < api.MaxOrders; n++ {
		wantEntered(t, b, limit(1, sell, int64(50+n%9), 1), n, rested(n, int64(50+n%9), 1))
	}
	wantEntered(t, b, withStop(limit(2, buy, 1, 1), 60), api.MaxOrders, told(board.Waits, api.MaxOrders, 1))
	return b
}

// P2.1: a full board takes no order, not even one that would trade at once. What is not valid comes before, what crosses behind.
func TestFull(t *testing.T) {
	b := fill(t)
	wantRefused(t, b, limit(2, buy, 1, 1), api.ErrFull)
	wantRefused(t, b, market(2, buy, 1), api.ErrFull)
	wantRefused(t, b, withStop(limit(2, buy, 50, 1), 60), api.ErrFull)
	wantRefused(t, b, withForce(limit(2, buy, 50, 1), board.Post), api.ErrFull)
	wantRefused(t, b, limit(0, buy, 1, 1), api.ErrArg)
	wantCancelled(t, b, api.MaxOrders, 2, 1)
	wantRefused(t, b, withForce(limit(2, buy, 50, 1), board.Post), api.ErrCross)
	wantEntered(t, b, limit(2, buy, 1, 1), api.MaxOrders+1, rested(api.MaxOrders+1, 1, 1))
	wantRefused(t, b, limit(2, buy, 1, 1), api.ErrFull)
}

// P2.1: an order that is amended finds its place on a full board.
func TestFullAmend(t *testing.T) {
	b := fill(t)
	wantAmended(t, b, 1, 1, 70, 1, rested(1, 70, 1))
	wantRefused(t, b, limit(2, buy, 1, 1), api.ErrFull)
}

// P2.1: prices that are good are met from the best one on, and no others.
func TestGoodPrices(t *testing.T) {
	b := board.New()
	for i, price := range []int64{52, 50, 53, 51} {
		wantEntered(t, b, limit(1, sell, price, 2), i+1, rested(i+1, price, 2))
	}
	wantEntered(t, b, limit(2, buy, 52, 9), 5, traded(5, 2, 50, 2), traded(5, 4, 51, 2), traded(5, 1, 52, 2), rested(5, 52, 3))
	wantBest(t, b, sell, 53, 2)
	wantBest(t, b, buy, 52, 3)
	b = board.New()
	for i, price := range []int64{52, 50, 53, 51} {
		wantEntered(t, b, limit(1, buy, price, 2), i+1, rested(i+1, price, 2))
	}
	wantEntered(t, b, limit(2, sell, 51, 9), 5, traded(5, 3, 53, 2), traded(5, 1, 52, 2), traded(5, 4, 51, 2), rested(5, 51, 3))
	wantBest(t, b, buy, 50, 2)
	wantLast(t, b, 51)
}

// P2.1: every price is good for a market order. What is left of it does not rest.
func TestMarketOrders(t *testing.T) {
	b := board.New()
	wantEntered(t, b, limit(1, sell, api.MaxPrice, 2), 1, rested(1, api.MaxPrice, 2))
	wantEntered(t, b, limit(1, sell, 7, 2), 2, rested(2, 7, 2))
	wantEntered(t, b, market(2, buy, 5), 3, traded(3, 2, 7, 2), traded(3, 1, api.MaxPrice, 2), told(board.Cancelled, 3, 1))
	wantEntered(t, b, limit(1, buy, 1, 2), 4, rested(4, 1, 2))
	wantEntered(t, b, limit(1, buy, 7, 2), 5, rested(5, 7, 2))
	wantEntered(t, b, market(2, sell, 3), 6, traded(6, 5, 7, 2), traded(6, 4, 1, 1))
	wantEntered(t, b, withForce(market(2, sell, 1), board.All), 7, traded(7, 4, 1, 1))
	wantNumbers(t, "Orders()", b.Orders())
}

// P2.1: what Force Now leaves is cancelled.
func TestNow(t *testing.T) {
	b := board.New()
	wantEntered(t, b, limit(1, sell, 50, 2), 1, rested(1, 50, 2))
	wantEntered(t, b, limit(1, sell, 51, 2), 2, rested(2, 51, 2))
	wantEntered(t, b, withForce(limit(2, buy, 50, 5), board.Now), 3, traded(3, 1, 50, 2), told(board.Cancelled, 3, 3))
	wantEntered(t, b, withForce(limit(2, buy, 51, 2), board.Now), 4, traded(4, 2, 51, 2))
	wantEntered(t, b, withForce(limit(2, buy, 51, 2), board.Now), 5, told(board.Cancelled, 5, 2))
	wantNumbers(t, "Orders()", b.Orders())
}

// P2.1: of what Force All can trade, hidden parts are counted, own orders and prices that are not good are not.
func TestAll(t *testing.T) {
	b := board.New()
	wantEntered(t, b, withPeak(limit(1, sell, 50, 6), 2), 1, rested(1, 50, 6))
	wantEntered(t, b, limit(3, sell, 50, 4), 2, rested(2, 50, 4))
	wantEntered(t, b, limit(2, sell, 51, 3), 3, rested(3, 51, 3))
	wantEntered(t, b, limit(2, sell, 52, 9), 4, rested(4, 52, 9))
	wantEntered(t, b, withForce(limit(3, buy, 51, 10), board.All), 5, told(board.Killed, 5, 10))
	wantNumbers(t, "Orders()", b.Orders(), 1, 2, 3, 4)
	wantEntered(t, b, withForce(limit(3, buy, 51, 9), board.All), 6, traded(6, 1, 50, 2), told(board.Removed, 2, 4),
		traded(6, 1, 50, 2), traded(6, 1, 50, 2), traded(6, 3, 51, 3))
	wantEntered(t, b, withForce(market(1, buy, 10), board.All), 7, told(board.Killed, 7, 10))
	wantEntered(t, b, withForce(market(1, buy, 9), board.All), 8, traded(8, 4, 52, 9))
	for n, price := range []int64{10, 9, 8} {
		wantEntered(t, b, limit(1, buy, price, 1), 9+n, rested(9+n, price, 1))
	}
	wantEntered(t, b, withForce(limit(2, sell, 9, 3), board.All), 12, told(board.Killed, 12, 3))
	wantEntered(t, b, withForce(limit(2, sell, 8, 3), board.All), 13, traded(13, 9, 10, 1), traded(13, 10, 9, 1), traded(13, 11, 8, 1))
}

// P2.1: own orders at the front are removed with what is left of them, and only as long as something is to be traded.
func TestOwnOrders(t *testing.T) {
	b := board.New()
	wantEntered(t, b, withPeak(limit(1, sell, 50, 6), 2), 1, rested(1, 50, 6))
	wantEntered(t, b, limit(2, sell, 50, 3), 2, rested(2, 50, 3))
	wantEntered(t, b, limit(1, sell, 50, 1), 3, rested(3, 50, 1))
	wantEntered(t, b, limit(3, buy, 50, 1), 4, traded(4, 1, 50, 1))
	wantEntered(t, b, limit(1, buy, 50, 3), 5, told(board.Removed, 1, 5), traded(5, 2, 50, 3))
	wantNumbers(t, "Orders()", b.Orders(), 3)
	wantEntered(t, b, limit(1, buy, 50, 3), 6, told(board.Removed, 3, 1), rested(6, 50, 3))
}

// P2.1: the shown part is renewed from the hidden one, at the end of the queue.
func TestPeaks(t *testing.T) {
	b := board.New()
	wantEntered(t, b, withPeak(limit(1, sell, 50, 7), 3), 1, rested(1, 50, 7))
	wantEntered(t, b, limit(2, sell, 50, 2), 2, rested(2, 50, 2))
	wantEntered(t, b, limit(3, buy, 50, 2), 3, traded(3, 1, 50, 2))
	wantQueue(t, b, sell, 50, 1, 2)
	wantBest(t, b, sell, 50, 3)
	wantEntered(t, b, limit(3, buy, 50, 1), 4, traded(4, 1, 50, 1))
	wantQueue(t, b, sell, 50, 2, 1)
	wantBest(t, b, sell, 50, 5)
	wantEntered(t, b, limit(3, buy, 50, 5), 5, traded(5, 2, 50, 2), traded(5, 1, 50, 3))
	wantStatus(t, b, 1, board.Status{Order: withPeak(limit(1, sell, 50, 7), 3), Left: 1, Shown: 1})
	wantEntered(t, b, limit(3, buy, 50, 5), 6, traded(6, 1, 50, 1), rested(6, 50, 4))
	wantNoBest(t, b, sell)
}

// P2.1: an order that rests behind trades shows its peak, but at most what is left.
func TestPeakOfWhatIsLeft(t *testing.T) {
	b := board.New()
	wantEntered(t, b, limit(1, sell, 50, 4), 1, rested(1, 50, 4))
	wantEntered(t, b, withPeak(limit(2, buy, 50, 6), 3), 2, traded(2, 1, 50, 4), rested(2, 50, 2))
	wantBest(t, b, buy, 50, 2)
	wantEntered(t, b, withPeak(limit(2, buy, 50, 6), 3), 3, rested(3, 50, 6))
	wantBest(t, b, buy, 50, 5)
}

// P2.1: an order with a stop waits until the last price reaches it. A last price of 0 reaches none.
func TestStops(t *testing.T) {
	b := board.New()
	wantEntered(t, b, withStop(limit(1, sell, 40, 1), api.MaxPrice), 1, told(board.Waits, 1, 1))
	wantCancelled(t, b, 1, 1, 1)
	wantEntered(t, b, withStop(limit(1, buy, 10, 1), 52), 2, told(board.Waits, 2, 1))
	wantEntered(t, b, withStop(limit(1, sell, 90, 2), 48), 3, told(board.Waits, 3, 2))
	wantEntered(t, b, limit(2, sell, 51, 1), 4, rested(4, 51, 1))
	wantEntered(t, b, limit(3, buy, 51, 1), 5, traded(5, 4, 51, 1))
	wantEntered(t, b, limit(2, sell, 49, 1), 6, rested(6, 49, 1))
	wantEntered(t, b, limit(3, buy, 49, 1), 7, traded(7, 6, 49, 1))
	wantNumbers(t, "Stops()", b.Stops(), 2, 3)
	wantEntered(t, b, limit(2, sell, 52, 1), 8, rested(8, 52, 1))
	wantEntered(t, b, limit(3, buy, 52, 1), 9, traded(9, 8, 52, 1), told(board.Triggered, 2, 1), rested(2, 10, 1))
	wantEntered(t, b, limit(2, buy, 48, 1), 10, rested(10, 48, 1))
	wantEntered(t, b, limit(3, sell, 48, 1), 11, traded(11, 10, 48, 1), told(board.Triggered, 3, 2), rested(3, 90, 2))
	wantEntered(t, b, withStop(limit(1, buy, 11, 3), 48), 12, told(board.Waits, 12, 3), told(board.Triggered, 12, 3), rested(12, 11, 3))
	wantEntered(t, b, withStop(limit(1, sell, 91, 3), 47), 13, told(board.Waits, 13, 3))
	wantStatus(t, b, 12, board.Status{Order: withStop(limit(1, buy, 11, 3), 48), Left: 3, Shown: 3})
}

// P2.1: of the orders that are due the one with the least number comes in first, whatever its side and stop, and is done before the next.
func TestDueInOrder(t *testing.T) {
	b := board.New()
	wantEntered(t, b, withStop(limit(1, buy, 10, 1), 49), 1, told(board.Waits, 1, 1))
	wantEntered(t, b, withStop(limit(1, sell, 90, 1), 51), 2, told(board.Waits, 2, 1))
	wantEntered(t, b, withStop(limit(1, buy, 11, 1), 50), 3, told(board.Waits, 3, 1))
	wantEntered(t, b, withStop(limit(1, buy, 12, 1), 49), 4, told(board.Waits, 4, 1))
	wantEntered(t, b, withStop(limit(1, buy, 13, 1), 48), 5, told(board.Waits, 5, 1))
	wantEntered(t, b, limit(2, sell, 50, 1), 6, rested(6, 50, 1))
	wantEntered(t, b, market(3, buy, 1), 7, traded(7, 6, 50, 1),
		told(board.Triggered, 1, 1), rested(1, 10, 1),
		told(board.Triggered, 2, 1), rested(2, 90, 1),
		told(board.Triggered, 3, 1), rested(3, 11, 1),
		told(board.Triggered, 4, 1), rested(4, 12, 1),
		told(board.Triggered, 5, 1), rested(5, 13, 1))
}

// P2.1: the trades of an order that was triggered make others due, and some due no more.
func TestStopsFollow(t *testing.T) {
	b := board.New()
	wantEntered(t, b, withStop(market(1, buy, 2), 50), 1, told(board.Waits, 1, 2))
	wantEntered(t, b, withStop(limit(2, sell, 70, 2), 50), 2, told(board.Waits, 2, 2))
	wantEntered(t, b, withStop(market(4, buy, 2), 60), 3, told(board.Waits, 3, 2))
	wantEntered(t, b, limit(5, sell, 50, 1), 4, rested(4, 50, 1))
	wantEntered(t, b, limit(5, sell, 60, 3), 5, rested(5, 60, 3))
	wantEntered(t, b, limit(6, buy, 50, 1), 6, traded(6, 4, 50, 1),
		told(board.Triggered, 1, 2), traded(1, 5, 60, 2),
		told(board.Triggered, 3, 2), traded(3, 5, 60, 1), told(board.Cancelled, 3, 1))
	wantNumbers(t, "Stops()", b.Stops(), 2)
	wantLast(t, b, 60)
}

// P2.1: stops follow behind the whole of the order that came in, not behind each trade.
func TestStopsBehindAll(t *testing.T) {
	b := board.New()
	wantEntered(t, b, withStop(market(1, buy, 1), 50), 1, told(board.Waits, 1, 1))
	wantEntered(t, b, limit(2, sell, 50, 1), 2, rested(2, 50, 1))
	wantEntered(t, b, limit(2, sell, 51, 1), 3, rested(3, 51, 1))
	wantEntered(t, b, limit(3, buy, 51, 3), 4, traded(4, 2, 50, 1), traded(4, 3, 51, 1), rested(4, 51, 1),
		told(board.Triggered, 1, 1), told(board.Cancelled, 1, 1))
}

// P2.1: the examples of the chapter.
func TestExamples(t *testing.T) {
	b := board.New()
	wantEntered(t, b, withPeak(limit(1, sell, 50, 10), 4), 1, rested(1, 50, 10))
	wantEntered(t, b, limit(2, sell, 50, 5), 2, rested(2, 50, 5))
	wantBest(t, b, sell, 50, 9)
	wantEntered(t, b, limit(3, buy, 55, 7), 3, traded(3, 1, 50, 4), traded(3, 2, 50, 3))
	wantQueue(t, b, sell, 50, 2, 1)
	wantStatus(t, b, 1, board.Status{Order: withPeak(limit(1, sell, 50, 10), 4), Left: 6, Shown: 4})
	wantStatus(t, b, 2, board.Status{Order: limit(2, sell, 50, 5), Left: 2, Shown: 2})
	wantEntered(t, b, withForce(limit(2, buy, 50, 3), board.Now), 4, told(board.Removed, 2, 2), traded(4, 1, 50, 3))
	wantEntered(t, b, withForce(market(4, buy, 9), board.All), 5, told(board.Killed, 5, 9))
	wantEntered(t, b, withStop(market(5, sell, 1), 50), 6, told(board.Waits, 6, 1), told(board.Triggered, 6, 1), told(board.Cancelled, 6, 1))
}
