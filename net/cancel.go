package net

import (
	"math"
	"slices"

	"oast/api"
)

// The nodes of a network are the parties, and the two ends of what flows in it.
const (
	source = api.MaxParties + iota
	sink
	nodes
)

// far is much more than any distance in a network: it stands for that of a node to which no way leads.
const far = math.MaxInt32

// way leads from a node to another one: so much more can flow along it, and each piece of that costs so much.
type way struct {
	from, to   int
	cost, room int64
}

// network shows which debts are needed. A cancelling leaves debts with the positions of the table: a flow from the parties
// that owe more to those that are owed more. It is greatest if it leaves as little as can be, so if the flow costs the
// least, when each piece of it costs 1 for each debt that it takes.
//
// The way at an even index and the one after it share their room: what flows along one can flow back along the other.
type network []way

// lay returns the network of a table with nothing in it.
func lay(debts [][]int64) network {
	var w network
	for i, owed := range debts {
		for j, debt := range owed {
			if debt > 0 {
				w.add(way{from: i, to: j, cost: 1, room: debt})
			}
		}
	}
	for party, position := range positions(debts) {
		if position < 0 {
			w.add(way{from: source, to: party, room: -position})
		}
		if position > 0 {
			w.add(way{from: party, to: sink, room: position})
		}
	}
	return w
}

// add adds a way and the way back.
func (w *network) add(x way) {
	*w = append(*w, x, way{from: x.to, to: x.from, cost: -x.cost})
}

// filled returns the network of a table with the cheapest flow in it. All that the parties owe can flow, so the sink is far
// when nothing is left for it.
func filled(debts [][]int64) network {
	w := lay(debts)
	for {
		var at [nodes]int64
		for node := range at {
			at[node] = far
		}
		at[source] = 0
		at, by := w.relax(at)
		if at[sink] == far {
			return w
		}
		w.fill(by)
	}
}

// relax lowers the nodes' distances, until no way leads from a node to another one that is further from it than the way
// costs. By tells the way by which each distance was lowered last. It looks at the distances of the round before alone: so
// of several cheapest paths, by gives one of the fewest ways, without which there could be very many fillings.
func (w network) relax(at [nodes]int64) (distances [nodes]int64, by [nodes]int) {
relaxing:
	for {
		before := at
		for i, x := range w {
			if x.room > 0 && before[x.from]+x.cost < at[x.to] {
				at[x.to], by[x.to] = before[x.from]+x.cost, i
			}
		}
		for node := range at {
			if at[node] < before[node] {
				continue relaxing
			}
		}
		return at, by
	}
}

// fill sends as much as there is room for along the path to the sink that by gives.
func (w network) fill(by [nodes]int) {
	amount := int64(math.MaxInt64)
	for node := sink; node != source; node = w[by[node]].from {
		amount = min(amount, w[by[node]].room)
	}
	for node := sink; node != source; node = w[by[node]].from {
		w[by[node]].room -= amount
		w[by[node]^1].room += amount
	}
}

// Cancel returns a greatest cancelling and its amount.
func Cancel(debts [][]int64) (cancelled [][]int64, amount int64, e api.Errno) {
	if e := Check(debts); e != api.OK {
		return nil, 0, e
	}
	cancelled = empty(len(debts))
	for _, x := range filled(debts) {
		if x.cost > 0 {
			cancelled[x.from][x.to] = x.room
			amount += x.room
		}
	}
	return cancelled, amount, api.OK
}

// Ranks returns ranks whose bound is the amount of a greatest cancelling: distances in the filled network. A debt of
// which something is cancelled has room, so the creditor's rank is greater by at most 1; one of which something is left has
// room for the way back, so it is greater by at least 1. So the bound counts what is cancelled, and nothing else.
func Ranks(debts [][]int64) ([]int64, api.Errno) {
	if e := Check(debts); e != api.OK {
		return nil, e
	}
	var at [nodes]int64
	for node := range at {
		at[node] = int64(len(debts) - 1)
	}
	ranks, _ := filled(debts).relax(at)
	return slices.Clone(ranks[:len(debts)]), api.OK
}
