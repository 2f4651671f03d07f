package bid

import (
	"cmp"
	"slices"

	"oast/api"
)

// Second sells one lot to the highest bid, at the second one.
func Second(bids []int64, reserve int64) (winner int, price int64, e api.Errno) {
	if len(bids) > api.MaxItems {
		return 0, 0, api.ErrLong
	}
	if !areWorths(bids) || !isWorth(reserve) {
		return 0, 0, api.ErrArg
	}
	order := falling(bids)
	if len(bids) == 0 || bids[order[0]] < reserve {
		return 0, 0, api.ErrNone
	}
	price = reserve
	if len(bids) > 1 {
		price = max(price, bids[order[1]])
	}
	return order[0], price, api.OK
}

// Uniform sells lots that are alike, at the highest bid that gets none.
func Uniform(bids []int64, lots int) (winners []int, price int64, e api.Errno) {
	if len(bids) > api.MaxItems {
		return nil, 0, api.ErrLong
	}
	if !areWorths(bids) || lots < 0 || lots > api.MaxItems {
		return nil, 0, api.ErrArg
	}
	order := falling(bids)
	winners = order[:min(lots, len(order))]
	if lots < len(order) {
		price = bids[order[lots]]
	}
	slices.Sort(winners)
	return winners, price, api.OK
}

// falling returns the numbers of the bids, the highest one first, of equal ones the first one first.
func falling(bids []int64) []int {
	order := make([]int, len(bids))
	for i := range order {
		order[i] = i
	}
	slices.SortStableFunc(order, func(i, j int) int { return cmp.Compare(bids[j], bids[i]) })
	return order
}
