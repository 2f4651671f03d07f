package board

import "oast/api"

// entry is an order with a number, and what is left of it.
type entry struct {
	number      int
	order       Order
	left, shown int64
	waits       bool
	level       *level        // where it rests or waits
	place       *link[*entry] // its place in the queue there
}

// show changes how much of a resting order is shown.
func (x *entry) show(more int64) {
	x.shown += more
	x.level.shown += more
}

// shrink takes away all but qty of a resting order, from the hidden part first.
func (x *entry) shrink(qty int64) {
	x.left = qty
	if x.shown > qty {
		x.show(qty - x.shown)
	}
}

// renew shows the next part of a resting order, at the end of its queue.
func (x *entry) renew() {
	queue := &x.level.queue
	queue.remove(x.place)
	queue.push(x.place)
	x.show(x.slice())
}

// slice is how much of an order is shown when it comes to rest or is renewed.
func (x *entry) slice() int64 {
	if x.order.Peak == 0 {
		return x.left
	}
	return min(x.order.Peak, x.left)
}

// limit is the last price that is good for an order. All prices are good for one of Kind Market.
func (o Order) limit() int64 {
	switch {
	case o.Kind == Limit:
		return o.Price
	case o.Side == api.Buy:
		return api.MaxPrice
	}
	return 1
}

func isValid(o Order) bool {
	return within(int64(o.Member), 1, api.MaxMember) && isSide(o.Side) &&
		within(int64(o.Force), Rest, Post) && within(o.Qty, 1, api.MaxQty) &&
		hasPrice(o) && within(o.Stop, 0, api.MaxPrice) && hasPeak(o)
}

// hasPrice tells whether the price suits the kind.
func hasPrice(o Order) bool {
	switch o.Kind {
	case Limit:
		return within(o.Price, 1, api.MaxPrice)
	case Market:
		return o.Price == 0 && (o.Force == Now || o.Force == All)
	}
	return false
}

// hasPeak tells whether the peak suits the quantity and the force.
func hasPeak(o Order) bool {
	return o.Peak == 0 || within(o.Peak, 1, o.Qty) && (o.Force == Rest || o.Force == Post)
}

func within(n, least, most int64) bool { return n >= least && n <= most }

func isSide(side int) bool { return side == api.Buy || side == api.Sell }

func other(side int) int { return api.Buy + api.Sell - side }
