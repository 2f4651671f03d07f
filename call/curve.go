package call

import (
	"cmp"
	"slices"

	"oast/api"
)

// spot is a price with the demand and the supply there.
type spot struct{ price, demand, supply int64 }

func (s spot) volume() int64 { return min(s.demand, s.supply) }

func (s spot) surplus() int64 { return s.demand - s.supply }

// missed is least where the volume is greatest.
func (s spot) missed() int64 { return -s.volume() }

// spotAt adds up the bids that take part at a price.
func spotAt(l []Bid, price int64) spot {
	s := spot{price: price}
	for _, b := range l {
		switch {
		case !b.takesPart(price):
		case b.Side == api.Buy:
			s.demand += b.Qty
		default:
			s.supply += b.Qty
		}
	}
	return s
}

func (b Bid) takesPart(price int64) bool {
	if b.Side == api.Buy {
		return b.Price >= price
	}
	return b.Price <= price
}

// step narrows the prices that are left, if all of them are as when says: it keeps those of the least score.
type step struct {
	when  func(spot) bool
	score func(spot) int64
}

// auction returns the price of the auction. If its volume is 0, there is none.
func auction(l []Bid, reference int64) spot {
	always := func(spot) bool { return true }
	steps := []step{
		{always, spot.missed},
		{always, func(s spot) int64 { return abs(s.surplus()) }},
		{func(s spot) bool { return s.surplus() > 0 }, func(s spot) int64 { return -s.price }},
		{func(s spot) bool { return s.surplus() < 0 }, func(s spot) int64 { return s.price }},
		{always, func(s spot) int64 { return abs(s.price - reference) }},
	}
	left := spots(l, reference)
	for _, x := range steps {
		if every(left, x.when) {
			left = least(left, x.score)
		}
	}
	return left[0]
}

func every(list []spot, holds func(spot) bool) bool {
	return !slices.ContainsFunc(list, func(s spot) bool { return !holds(s) })
}

// least returns the spots of the least score, in their order.
func least(list []spot, score func(spot) int64) []spot {
	best := slices.MinFunc(list, func(a, b spot) int { return cmp.Compare(score(a), score(b)) })
	limit := score(best)
	return slices.DeleteFunc(list, func(s spot) bool { return score(s) > limit })
}

// spots returns, for each stretch of prices with one demand and one supply, the only prices that can be the auction's: the ends and the one nearest to the reference price. They never fall.
func spots(l []Bid, reference int64) []spot {
	var list []spot
	walk(events(l), func(lo, hi, demand, supply int64) {
		near := min(max(reference, lo), hi)
		list = append(list, spot{lo, demand, supply}, spot{near, demand, supply}, spot{hi, demand, supply})
	})
	return list
}

// events returns by how much the demand and the supply change from a price on, in the order of the prices. The last one is just above the prices.
func events(l []Bid) []spot {
	list := []spot{{price: 1}, {price: api.MaxPrice + 1}}
	for _, b := range l {
		if b.Side == api.Buy {
			list = append(list, spot{price: 1, demand: b.Qty}, spot{price: b.Price + 1, demand: -b.Qty})
		} else {
			list = append(list, spot{price: b.Price, supply: b.Qty})
		}
	}
	slices.SortFunc(list, func(a, b spot) int { return cmp.Compare(a.price, b.price) })
	return list
}

// walk visits the stretches of prices between the events, the lowest one first.
func walk(list []spot, visit func(lo, hi, demand, supply int64)) {
	var demand, supply int64
	for i := range len(list) - 1 {
		demand += list[i].demand
		supply += list[i].supply
		lo, hi := list[i].price, list[i+1].price-1
		if lo <= hi {
			visit(lo, hi, demand, supply)
		}
	}
}

func abs(n int64) int64 { return max(n, -n) }
