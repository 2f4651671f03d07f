package house

// losses are those of positions in each scenario.
func (h *House) losses(positions monthly) []wide {
	list := make([]wide, len(h.moves))
	for i, moves := range h.moves {
		list[i] = wide{}.minus(positions.times(moves))
	}
	return list
}

// greatest returns the greatest of some numbers.
func greatest(first wide, others ...wide) wide {
	for _, x := range others {
		first = first.max(x)
	}
	return first
}

// margin is what positions need when the months have these prices.
func (h *House) margin(positions, prices monthly) wide {
	for i := range prices {
		prices[i] *= h.rate
	}
	thousandths := positions.sizes().times(prices)
	part, _ := thousandths.plus(widen(maxRate - 1)).over(widen(maxRate)) // rounded up
	return part.plus(greatest(wide{}, h.losses(positions)...))
}

// missing is by how much the cash of an account would be less than its margin if the months were marked to these prices.
func (h *House) missing(a account, prices monthly) wide {
	var changes monthly
	for i := range changes {
		changes[i] = prices[i] - h.prices[i]
	}
	cash := widen(a.cash).plus(a.positions.times(changes))
	return h.margin(a.positions, prices).minus(cash)
}

// covers tells whether the cash of an account is at least its margin.
func (h *House) covers(a account) bool {
	return h.missing(a, h.prices).compare(wide{}) <= 0
}

// allows tells whether the owner of an account may change a position and its cash: if it is covered then, or nothing gets worse.
func (h *House) allows(a account, month int, qty, gain int64) bool {
	positions := a.positions
	positions[month] += qty
	margin := h.margin(positions, h.prices)
	cash := widen(a.cash).plus(widen(gain)) // an int64 that wraps could seem enough
	return cash.compare(margin) >= 0 || gain >= 0 && margin.compare(h.margin(a.positions, h.prices)) <= 0
}

// moved are the prices after the moves of a scenario.
func (h *House) moved(moves monthly) monthly {
	prices := h.prices
	for i := range prices {
		prices[i] = max(prices[i]+moves[i], 1)
	}
	return prices
}
