package board_test

import (
	"math"
	"slices"
	"testing"

	"oast/api"
	"oast/board"
)

const (
	buy  = api.Buy
	sell = api.Sell
)

// limit is an order of Kind Limit and Force Rest that is shown as a whole.
func limit(member, side int, price, qty int64) board.Order {
	return board.Order{Member: member, Side: side, Kind: board.Limit, Force: board.Rest, Price: price, Qty: qty}
}

// market is an order of Kind Market and Force Now.
func market(member, side int, qty int64) board.Order {
	return board.Order{Member: member, Side: side, Kind: board.Market, Force: board.Now, Qty: qty}
}

func withForce(o board.Order, force int) board.Order {
	o.Force = force
	return o
}

func withStop(o board.Order, stop int64) board.Order {
	o.Stop = stop
	return o
}

func withPeak(o board.Order, peak int64) board.Order {
	o.Peak = peak
	return o
}

// told is an event that has neither another order nor a price.
func told(what, order int, qty int64) board.Event {
	return board.Event{What: what, Order: order, Qty: qty}
}

func traded(order, other int, price, qty int64) board.Event {
	return board.Event{What: board.Traded, Order: order, Other: other, Price: price, Qty: qty}
}

func rested(order int, price, qty int64) board.Event {
	return board.Event{What: board.Rested, Order: order, Price: price, Qty: qty}
}

func wantEvents(t *testing.T, what string, got []board.Event, e api.Errno, want ...board.Event) {
	t.Helper()
	if e != api.OK || !slices.Equal(got, want) {
		t.Errorf("%s: %v, error %d, want %v", what, got, e, want)
	}
}

// wantEntered enters an order that gets the number, and has these events.
func wantEntered(t *testing.T, b *board.Board, o board.Order, number int, want ...board.Event) {
	t.Helper()
	n, got, e := b.Enter(o)
	if n != number {
		t.Errorf("Enter(%v): number %d, want %d", o, n, number)
	}
	wantEvents(t, "Enter", got, e, want...)
}

// wantRefused enters an order that is refused without an effect.
func wantRefused(t *testing.T, b *board.Board, o board.Order, want api.Errno) {
	t.Helper()
	was := stateOf(b)
	n, got, e := b.Enter(o)
	if n != 0 || len(got) != 0 || e != want {
		t.Errorf("Enter(%+v): number %d, %v, error %d, want error %d alone", o, n, got, e, want)
	}
	wantState(t, "a refused order", b, was)
}

func wantCancelled(t *testing.T, b *board.Board, number, member int, qty int64) {
	t.Helper()
	got, e := b.Cancel(number, member)
	wantEvents(t, "Cancel", got, e, told(board.Cancelled, number, qty))
}

func wantNotCancelled(t *testing.T, b *board.Board, number, member int, want api.Errno) {
	t.Helper()
	was := stateOf(b)
	got, e := b.Cancel(number, member)
	if len(got) != 0 || e != want {
		t.Errorf("Cancel(%d, %d): %v, error %d, want error %d alone", number, member, got, e, want)
	}
	wantState(t, "a refused Cancel", b, was)
}

func wantAmended(t *testing.T, b *board.Board, number, member int, price, qty int64, want ...board.Event) {
	t.Helper()
	got, e := b.Amend(number, member, price, qty)
	wantEvents(t, "Amend", got, e, want...)
}

func wantNotAmended(t *testing.T, b *board.Board, number, member int, price, qty int64, want api.Errno) {
	t.Helper()
	was := stateOf(b)
	got, e := b.Amend(number, member, price, qty)
	if len(got) != 0 || e != want {
		t.Errorf("Amend(%d, %d, %d, %d): %v, error %d, want error %d alone", number, member, price, qty, got, e, want)
	}
	wantState(t, "a refused Amend", b, was)
}

func wantBest(t *testing.T, b *board.Board, side int, price, shown int64) {
	t.Helper()
	p, s, ok := b.Best(side)
	if !ok || p != price || s != shown {
		t.Errorf("Best(%d) is %d, %d, %v, want %d, %d", side, p, s, ok, price, shown)
	}
}

func wantNoBest(t *testing.T, b *board.Board, side int) {
	t.Helper()
	if p, s, ok := b.Best(side); ok || p != 0 || s != 0 {
		t.Errorf("Best(%d) is %d, %d, %v, want none", side, p, s, ok)
	}
}

func wantDepth(t *testing.T, b *board.Board, side, most int, want ...board.Level) {
	t.Helper()
	if got := b.Depth(side, most); !slices.Equal(got, want) {
		t.Errorf("Depth(%d, %d) is %v, want %v", side, most, got, want)
	}
}

func wantQueue(t *testing.T, b *board.Board, side int, price int64, want ...int) {
	t.Helper()
	if got := b.Queue(side, price); !slices.Equal(got, want) {
		t.Errorf("Queue(%d, %d) is %v, want %v", side, price, got, want)
	}
}

func wantStatus(t *testing.T, b *board.Board, number int, want board.Status) {
	t.Helper()
	if got, e := b.Get(number); e != api.OK || got != want {
		t.Errorf("Get(%d) is %+v, error %d, want %+v", number, got, e, want)
	}
}

func wantNumbers(t *testing.T, what string, got []int, want ...int) {
	t.Helper()
	if !slices.Equal(got, want) {
		t.Errorf("%s is %v, want %v", what, got, want)
	}
}

func wantLast(t *testing.T, b *board.Board, want int64) {
	t.Helper()
	if got := b.Last(); got != want {
		t.Errorf("Last() is %d, want %d", got, want)
	}
}

func wantCost(t *testing.T, b *board.Board, side int, qty, filled, money int64) {
	t.Helper()
	f, m, e := b.Cost(side, qty)
	if e != api.OK || f != filled || m != money {
		t.Errorf("Cost(%d, %d) is %d, %d, error %d, want %d, %d", side, qty, f, m, e, filled, money)
	}
}

// state is all that a board tells of itself, but for its next number.
type state struct {
	depths [2][]board.Level
	queues [][]int
	status map[int]board.Status
	orders []int
	stops  []int
	last   int64
}

func stateOf(b *board.Board) state {
	s := state{orders: b.Orders(), stops: b.Stops(), last: b.Last(), status: map[int]board.Status{}}
	for side := buy; side <= sell; side++ {
		s.depths[side-1] = b.Depth(side, math.MaxInt)
		for _, l := range s.depths[side-1] {
			s.queues = append(s.queues, b.Queue(side, l.Price))
		}
	}
	for _, n := range s.orders {
		s.status[n], _ = b.Get(n)
	}
	return s
}

func (s state) equal(o state) bool {
	if !slices.Equal(s.orders, o.orders) || !slices.Equal(s.stops, o.stops) || s.last != o.last {
		return false
	}
	for i := range s.depths {
		if !slices.Equal(s.depths[i], o.depths[i]) {
			return false
		}
	}
	for n, x := range s.status {
		if o.status[n] != x {
			return false
		}
	}
	return slices.EqualFunc(s.queues, o.queues, func(a, b []int) bool { return slices.Equal(a, b) })
}

func wantState(t *testing.T, what string, b *board.Board, want state) {
	t.Helper()
	if got := stateOf(b); !got.equal(want) {
		t.Errorf("%s: the board is %+v, want %+v", what, got, want)
	}
}

// outside returns numbers that are not from least to most.
func outside(least, most int64) []int64 {
	return []int64{math.MinInt64, least - 1, most + 1, math.MaxInt64}
}
