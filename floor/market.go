package floor

import (
	"maps"
	"slices"

	"oast/api"
	"oast/board"
	"oast/call"
)

// offer is a bid of a member: one of an auction, or what is left of an order that rests on a board.
type offer struct {
	member int
	call.Bid
}

// market is where a grade is traded.
type market struct {
	board     *board.Board
	resting   map[int]offer // on the board, by the numbers of the orders
	bids      []offer       // of the auction
	sells     map[int]int64 // by members, what is left of their selling offers
	reference int64
	trades    [][2]int64
}

// deal is a trade between two members, who may be the same.
type deal struct {
	buyer, seller int
	price, qty    int64
}

func newMarket() market {
	return market{board: board.New(), resting: map[int]offer{}, sells: map[int]int64{}, reference: 1}
}

func (m market) fork() market {
	m.board = m.board.Fork()
	m.resting = maps.Clone(m.resting)
	m.bids = slices.Clone(m.bids)
	m.sells = maps.Clone(m.sells)
	m.trades = slices.Clone(m.trades)
	return m
}

// isShort tells whether a member cannot settle an offer, which costs so much if it is a buyer's, next to all that it has already.
func (f *Floor) isShort(grade int, x offer, cost int64) bool {
	if x.Side == api.Buy {
		return cost > f.accounts[x.member].free()
	}
	free := f.freeOf(f.register, x.member)
	return f.markets[grade].sells[x.member]+x.Qty > int64(free[grade])
}

// bind binds what a part of an offer needs, or lets it go, if qty is negative.
func (f *Floor) bind(m *market, x offer, qty int64) {
	if x.Side == api.Buy {
		f.accounts[x.member].bound += x.Price * qty
	} else {
		m.sells[x.member] += qty
	}
}

// settle moves the pockets and the money of a trade.
func (f *Floor) settle(grade int, d deal) {
	m := &f.markets[grade]
	m.trades = append(m.trades, [2]int64{d.price, d.qty})
	if d.buyer != d.seller {
		f.deliver(grade, d.seller, d.buyer, int(d.qty))
		f.transfer(d.buyer, d.seller, d.price*d.qty)
	}
}
