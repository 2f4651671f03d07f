package house

import "oast/api"

func checkConfig(c Config) api.Errno {
	if !within(int64(c.Members), leastMembers, mostMembers) || !within(int64(c.Months), 1, maxMonths) ||
		!within(c.Rate, 0, maxRate) || !within(c.Capital, 0, api.MaxMoney) {
		return api.ErrArg
	}
	if len(c.Prices) != c.Months || len(c.Moves) > maxScenarios {
		return api.ErrShape
	}
	for _, scenario := range c.Moves {
		if len(scenario) != c.Months {
			return api.ErrShape
		}
	}
	if !areWithin(c.Prices, 1, api.MaxPrice) {
		return api.ErrArg
	}
	for _, scenario := range c.Moves {
		if !areWithin(scenario, -api.MaxPrice, api.MaxPrice) {
			return api.ErrArg
		}
	}
	return api.OK
}

// checkContract tells what is wrong with a contract, but for the margins.
func (h *House) checkContract(c Contract) api.Errno {
	switch {
	case h == nil:
		return api.ErrNil
	case !h.hasMember(c.Buyer) || !h.hasMember(c.Seller) || !h.hasMonth(c.Month):
		return api.ErrNone
	case c.Buyer == c.Seller || !within(c.Qty, 1, maxQty) || !isPrice(c.Price):
		return api.ErrArg
	case h.accounts[c.Buyer-1].out || h.accounts[c.Seller-1].out:
		return api.ErrState
	}
	return api.OK
}

func (h *House) hasMember(member int) bool { return member >= 1 && member <= len(h.accounts) }

func (h *House) hasMonth(month int) bool { return month >= 0 && month < h.months }

func isPrice(x int64) bool { return within(x, 1, api.MaxPrice) }

func areWithin(list []int64, least, most int64) bool {
	for _, x := range list {
		if !within(x, least, most) {
			return false
		}
	}
	return true
}

func within(n, least, most int64) bool { return n >= least && n <= most }
