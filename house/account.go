package house

import "oast/api"

// monthly is a number for each month. Those of months that the house does not have are 0, or are not used.
type monthly [maxMonths]int64

// account is what a member has.
type account struct {
	cash, fund int64
	positions  monthly
	out        bool
}

func monthlyOf(list []int64) monthly {
	var m monthly
	copy(m[:], list)
	return m
}

// times is the sum over the months of the products.
func (m monthly) times(n monthly) wide {
	var sum wide
	for i := range m {
		sum = sum.plus(product(m[i], n[i]))
	}
	return sum
}

// sizes are the numbers without their signs.
func (m monthly) sizes() monthly {
	for i, n := range m {
		m[i] = max(n, -n)
	}
	return m
}

// book changes a position and the cash.
func (a *account) book(month int, qty, gain int64) {
	a.positions[month] += qty
	a.cash += gain
}

// find returns a member's account.
func (h *House) find(member int) (*account, api.Errno) {
	switch {
	case h == nil:
		return nil, api.ErrNil
	case !h.hasMember(member):
		return nil, api.ErrNone
	}
	return &h.accounts[member-1], api.OK
}

// findTrader returns the account of a member that is not out.
func (h *House) findTrader(member int) (*account, api.Errno) {
	a, e := h.find(member)
	switch {
	case e != api.OK:
		return nil, e
	case a.out:
		return nil, api.ErrState
	}
	return a, api.OK
}

// findPayer returns the account of a member that may move an amount of money.
func (h *House) findPayer(member int, amount int64) (*account, api.Errno) {
	a, e := h.findTrader(member)
	switch {
	case e != api.OK:
		return nil, e
	case !within(amount, 1, api.MaxMoney):
		return nil, api.ErrArg
	}
	return a, api.OK
}

// pay takes from a member's cash what it does not need for its margin.
func (h *House) pay(member int, amount int64) (*account, api.Errno) {
	a, e := h.findPayer(member, amount)
	switch {
	case e != api.OK:
		return nil, e
	case a.cash < amount:
		return nil, api.ErrFunds
	}
	after := *a
	after.cash -= amount
	if !h.covers(after) {
		return nil, api.ErrMargin
	}
	*a = after
	return a, api.OK
}
