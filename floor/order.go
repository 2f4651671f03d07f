package floor

import (
	"oast/api"
	"oast/board"
	"oast/call"
)

// order enters an order; it returns its number, and the prices and quantities of its trades.
func (f *Floor) order(grade int, o board.Order) ([]int, api.Errno) {
	if !isGrade(grade) || !isOrder(o) {
		return nil, api.ErrArg
	}
	m := &f.markets[grade]
	x := offer{o.Member, call.Bid{Side: o.Side, Price: o.Price, Qty: o.Qty}}
	if f.isShort(grade, x, m.cost(o)) {
		return nil, api.ErrFunds
	}
	number, events, e := m.board.Enter(o)
	if e != api.OK {
		return nil, e
	}
	answer := []int{number}
	for _, d := range f.follow(grade, x, events) {
		f.settle(grade, d)
		answer = append(answer, int(d.price), int(d.qty))
	}
	return answer, api.OK
}

// isOrder asks an empty board, which refuses only orders that are not valid.
func isOrder(o board.Order) bool {
	_, _, e := board.New().Enter(o)
	return e == api.OK
}

// cost is what an order binds if it is a buyer's. One of Kind Market is tried on a fork.
func (m *market) cost(o board.Order) int64 {
	if o.Kind == board.Limit || o.Side == api.Sell {
		return o.Price * o.Qty
	}
	var cost int64
	_, events, _ := m.board.Fork().Enter(o)
	for _, x := range events {
		if x.What == board.Traded {
			cost += x.Price * x.Qty
		}
	}
	return cost
}

// follow keeps what rests, and what is bound by it, as the board told of an order that came in; it returns the trades.
func (f *Floor) follow(grade int, own offer, events []board.Event) []deal {
	m := &f.markets[grade]
	var deals []deal
	for _, x := range events {
		switch x.What {
		case board.Rested:
			own.Qty = x.Qty
			m.resting[x.Order] = own
			f.bind(m, own, own.Qty)
		case board.Removed:
			f.lessen(m, x.Order, x.Qty)
		case board.Traded:
			d := deal{own.member, m.resting[x.Other].member, x.Price, x.Qty}
			if own.Side == api.Sell {
				d.buyer, d.seller = d.seller, d.buyer
			}
			deals = append(deals, d)
			f.lessen(m, x.Other, x.Qty)
		}
	}
	return deals
}

// lessen takes a quantity off an order that rests.
func (f *Floor) lessen(m *market, number int, qty int64) {
	x := m.resting[number]
	f.bind(m, x, -qty)
	x.Qty -= qty
	if x.Qty == 0 {
		delete(m.resting, number)
	} else {
		m.resting[number] = x
	}
}

func (f *Floor) cancel(grade, number, member int) api.Errno {
	if !isGrade(grade) {
		return api.ErrArg
	}
	m := &f.markets[grade]
	if _, e := m.board.Cancel(number, member); e != api.OK {
		return e
	}
	f.lessen(m, number, m.resting[number].Qty)
	return api.OK
}
