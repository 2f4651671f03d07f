package board

// turn is what one call does to a board.
type turn struct {
	board  *Board
	events []Event
}

// The steps of an order that comes in.
const (
	entering = iota
	meeting
	resting
	ending
)

// comeIn lets an order in that has no place on the board yet.
func (t *turn) comeIn(x *entry) {
	step := entering
steps:
	for {
		switch step {
		case entering:
			if bar := t.board.bar(x.order); bar != 0 {
				t.tell(bar, x)
				break steps
			}
			step = meeting
			fallthrough
		case meeting:
			if x.left == 0 {
				break steps
			}
			if front := t.board.front(x.order); front != nil {
				t.meet(x, front)
				continue steps
			}
			fallthrough
		case resting:
			if x.order.Force == Rest || x.order.Force == Post {
				t.rest(x)
				break steps
			}
			fallthrough
		case ending:
			t.tell(Cancelled, x)
			break steps
		}
	}
}

// meet lets an order that comes in meet the front of the other side.
func (t *turn) meet(x, front *entry) {
	b := t.board
	if front.order.Member == x.order.Member {
		t.drop(front, Removed)
		return
	}
	n := min(x.left, front.shown)
	price := front.order.Price
	x.left -= n
	front.left -= n
	front.show(-n)
	b.last = price
	t.events = append(t.events, Event{What: Traded, Order: x.number, Other: front.number, Price: price, Qty: n})
	switch {
	case front.left == 0:
		b.take(front)
	case front.shown == 0:
		front.renew()
	}
}

// rest puts what is left of an order on the board.
func (t *turn) rest(x *entry) {
	x.shown = x.slice()
	t.board.put(x)
	t.events = append(t.events, Event{What: Rested, Order: x.number, Price: x.order.Price, Qty: x.left})
}

// wait puts an order with a stop on the board.
func (t *turn) wait(x *entry) {
	x.waits = true
	t.board.put(x)
	t.tell(Waits, x)
}

// trigger lets the waiting orders in that are due. Each one may change which of the others are.
func (t *turn) trigger() {
	for x := t.board.due(); x != nil; x = t.board.due() {
		t.drop(x, Triggered)
		x.waits = false
		t.comeIn(x)
	}
}

// drop takes an order off the board and tells why.
func (t *turn) drop(x *entry, why int) {
	t.board.take(x)
	t.tell(why, x)
}

// tell adds an event that has no price.
func (t *turn) tell(what int, x *entry) {
	t.events = append(t.events, Event{What: what, Order: x.number, Qty: x.left})
}
