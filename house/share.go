package house

import "slices"

// whole is the integers that can be shared; none of them may be negative.
type whole interface{ ~int64 | ~uint64 }

// size is a number without its sign.
func size(x int64) uint64 {
	if x < 0 {
		return -uint64(x)
	}
	return uint64(x)
}

// draw takes an amount, or as much as there is, out of pots in proportion to their sizes: each comes nearer to 0 by its share. It
// returns how much was taken.
func draw(amount uint64, pots ...*int64) uint64 {
	sizes := make([]uint64, len(pots))
	for i, pot := range pots {
		sizes[i] = size(*pot)
	}
	taken := uint64(0)
	for i, share := range shares(amount, sizes) {
		if *pots[i] < 0 {
			*pots[i] += int64(share)
		} else {
			*pots[i] -= int64(share)
		}
		taken += share
	}
	return taken
}

// shares deals an amount, or as much as the weights are together, in proportion to them. What the rounding leaves goes, by ones, to
// those with the greatest remainders, the first ones of equal ones.
func shares[N whole](amount N, weights []N) []N {
	var all wide
	for _, w := range weights {
		all = all.plus(wide{low: uint64(w)})
	}
	if all.compare(wide{low: uint64(amount)}) < 0 {
		amount = N(all.low)
	}
	list := make([]N, len(weights))
	if amount == 0 {
		return list
	}
	left := amount
	rests, order := make([]wide, len(weights)), make([]int, len(weights))
	for i, w := range weights {
		var part wide
		part, rests[i] = times(uint64(amount), uint64(w)).over(all)
		list[i], order[i] = N(part.low), i
		left -= list[i]
	}
	slices.SortStableFunc(order, func(i, j int) int { return rests[j].compare(rests[i]) })
	for _, i := range order[:left] {
		list[i]++
	}
	return list
}
