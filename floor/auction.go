package floor

import (
	"oast/api"
	"oast/call"
)

// bid puts a bid on the list of an auction.
func (f *Floor) bid(grade int, x offer) api.Errno {
	if !isGrade(grade) || !isMember(x.member) || call.Check([]call.Bid{x.Bid}) != api.OK {
		return api.ErrArg
	}
	m := &f.markets[grade]
	if len(m.bids) >= maxBids {
		return api.ErrFull
	}
	if f.isShort(grade, x, x.Price*x.Qty) {
		return api.ErrFunds
	}
	m.bids = append(m.bids, x)
	f.bind(m, x, x.Qty)
	return api.OK
}

// call holds the auction of a grade; it returns the price, the volume and how many pairs traded.
func (f *Floor) call(grade, rule int) ([]int, api.Errno) {
	if !isGrade(grade) {
		return nil, api.ErrArg
	}
	m := &f.markets[grade]
	var bids []call.Bid
	for _, x := range m.bids {
		bids = append(bids, x.Bid)
	}
	r, e := call.Clear(bids, m.reference, rule)
	if e != api.OK {
		return nil, e
	}
	deals := pairs(m.bids, r)
	for _, x := range m.bids {
		f.bind(m, x, -x.Qty)
	}
	m.bids, m.reference = nil, r.Price
	for _, d := range deals {
		f.settle(grade, d)
	}
	return []int{int(r.Price), int(r.Volume), len(deals)}, api.OK
}

// pairs pairs those who trade in an auction, the first buyer with the first seller, each pair as much as both still have.
func pairs(bids []offer, r call.Result) []deal {
	var sides [api.Sell + 1][]offer // who has a fill, and which, in the order of the list
	for i, x := range bids {
		x.Qty = r.Fills[i]
		if x.Qty > 0 {
			sides[x.Side] = append(sides[x.Side], x)
		}
	}
	buyers, sellers := sides[api.Buy], sides[api.Sell]
	var deals []deal
	for len(buyers) > 0 { // the fills of both sides are together the same, so that both end at once
		qty := min(buyers[0].Qty, sellers[0].Qty)
		deals = append(deals, deal{buyers[0].member, sellers[0].member, r.Price, qty})
		buyers, sellers = served(buyers, qty), served(sellers, qty)
	}
	return deals
}

// served takes a quantity off the first one of a side and returns those that have something left.
func served(side []offer, qty int64) []offer {
	side[0].Qty -= qty
	if side[0].Qty == 0 {
		return side[1:]
	}
	return side
}
