package board

import "oast/api"

// home returns the book in which an order is, or is to be, and the price of its level there.
func (b *Board) home(x *entry) (*book, int64) {
	if x.waits {
		return b.waiting[x.order.Side], x.order.Stop
	}
	return b.resting[x.order.Side], x.order.Price
}

func (b *Board) put(x *entry) {
	k, price := b.home(x)
	k.add(x, price)
	b.orders[x.number] = x
}

func (b *Board) take(x *entry) {
	k, _ := b.home(x)
	k.remove(x)
	delete(b.orders, x.number)
}

// copyOrders puts copies of a book's orders on another board.
func (b *Board) copyOrders(k *book) {
	for _, at := range k.levels {
		for x := range at.queue.all() {
			y := *x
			b.put(&y)
		}
	}
}

// find returns a member's order.
func (b *Board) find(number, member int) (*entry, api.Errno) {
	if b == nil {
		return nil, api.ErrNil
	}
	x := b.orders[number]
	switch {
	case x == nil:
		return nil, api.ErrNone
	case x.order.Member != member:
		return nil, api.ErrOwner
	}
	return x, api.OK
}

// front returns the front of the other side, if its price is good for an order.
func (b *Board) front(o Order) *entry {
	against := b.resting[other(o.Side)]
	best := against.best()
	if best == nil || against.better(o.limit(), best.price) {
		return nil
	}
	return best.queue.first.value
}

// crosses tells whether the best price of the other side is good for an order.
func (b *Board) crosses(o Order) bool { return b.front(o) != nil }

// fills tells whether an order would trade as a whole.
func (b *Board) fills(o Order) bool {
	missing := o.Qty
	for at := range b.resting[other(o.Side)].upTo(o.limit()) {
		for x := range at.queue.all() {
			if x.order.Member != o.Member {
				missing -= x.left
			}
		}
		if missing <= 0 {
			return true
		}
	}
	return false
}

// bar returns the event by which an order is kept out at once, or 0.
func (b *Board) bar(o Order) int {
	switch {
	case o.Force == Post && b.crosses(o):
		return Refused
	case o.Force == All && !b.fills(o):
		return Killed
	}
	return 0
}

// due returns the order with the least number whose stop the last price has reached, or nil.
func (b *Board) due() *entry {
	if b.last == 0 {
		return nil
	}
	var next *entry
	for side := api.Buy; side <= api.Sell; side++ {
		for at := range b.waiting[side].upTo(b.last) {
			// Numbers rise in a queue of waiting orders: the first one is the least there.
			if x := at.queue.first.value; next == nil || x.number < next.number {
				next = x
			}
		}
	}
	return next
}
