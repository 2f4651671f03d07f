package call

import (
	"cmp"
	"math/bits"
	"slices"

	"oast/api"
)

// whole is the integers that can be shared.
type whole interface{ ~int | ~int64 }

// fills returns how much each bid trades at a spot.
func fills(l []Bid, at spot, rule int) []int64 {
	list := make([]int64, len(l))
	for _, side := range [2]int{api.Buy, api.Sell} {
		queue := ranked(l, at.price, side)
		left := at.volume()
		for left > 0 { // the queue is not shorter than the volume
			same := samePrice(l, queue)
			given := share(left, quantities(l, same), rule)
			for i, n := range same {
				list[n] = given[i]
			}
			left -= sum(given)
			queue = queue[len(same):]
		}
	}
	return list
}

// ranked returns the numbers of the bids of a side that take part, those of the best price first, the earlier ones before the later ones.
func ranked(l []Bid, price int64, side int) []int {
	var list []int
	for i, b := range l {
		if b.Side == side && b.takesPart(price) {
			list = append(list, i)
		}
	}
	slices.SortStableFunc(list, func(i, j int) int {
		if side == api.Buy {
			return cmp.Compare(l[j].Price, l[i].Price)
		}
		return cmp.Compare(l[i].Price, l[j].Price)
	})
	return list
}

// samePrice returns the first numbers of the queue, as far as their bids have the price of the first one.
func samePrice(l []Bid, queue []int) []int {
	n := slices.IndexFunc(queue, func(i int) bool { return l[i].Price != l[queue[0]].Price })
	if n < 0 {
		return queue
	}
	return queue[:n]
}

func quantities(l []Bid, numbers []int) []int64 {
	list := make([]int64, len(numbers))
	for i, n := range numbers {
		list[i] = l[n].Qty
	}
	return list
}

// share shares a quantity, or as much of it as the weights take, by a rule.
func share[N whole](total N, weights []N, rule int) []N {
	total = min(total, sum(weights))
	if rule == ByTime {
		return byTime(total, weights)
	}
	return byShare(total, weights)
}

// byTime serves the weights one after the other.
func byTime[N whole](total N, weights []N) []N {
	list := make([]N, len(weights))
	for i, w := range weights {
		list[i] = min(w, total)
		total -= list[i]
	}
	return list
}

// byShare serves the weights in proportion. What the rounding leaves goes, by ones, to those that it took the most from.
func byShare[N whole](total N, weights []N) []N {
	list := make([]N, len(weights))
	if total == 0 {
		return list
	}
	left, all := total, sum(weights)
	rests := make([]uint64, len(weights))
	order := make([]int, len(weights))
	for i, w := range weights {
		list[i], rests[i] = portion(total, w, all)
		order[i] = i
		left -= list[i]
	}
	slices.SortStableFunc(order, func(i, j int) int { return cmp.Compare(rests[j], rests[i]) })
	for _, i := range order[:left] {
		list[i]++
	}
	return list
}

// portion returns total times weight by all, and the remainder. The product can be beyond 64 bits.
func portion[N whole](total, weight, all N) (N, uint64) {
	high, low := bits.Mul64(uint64(total), uint64(weight))
	part, rest := bits.Div64(high, low, uint64(all))
	return N(part), rest
}

func sum[N whole](list []N) N {
	var all N
	for _, n := range list {
		all += n
	}
	return all
}
