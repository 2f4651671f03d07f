package house

// source is one of the sources that a loss is covered from.
type source struct {
	take func(h *House, of *account, amount uint64) uint64 // takes the amount, or as much as is there, and returns how much it was
	part *int64                                            // where that is noted
}

// cover covers the loss of a member that is out.
func (h *House) cover(a *account) Loss {
	left := size(min(a.cash, 0))
	a.cash = max(a.cash, 0)
	var l Loss
	sources := []source{
		{(*House).takeOwn, &l.Own},
		{(*House).takeCapital, &l.Capital},
		{(*House).takeFunds, &l.Funds},
		{(*House).takeGains, &l.Gains},
		{(*House).takeHole, &l.Hole},
	}
	for _, s := range sources {
		taken := s.take(h, a, left)
		*s.part = int64(taken)
		left -= taken
	}
	return l
}

func (h *House) takeOwn(of *account, amount uint64) uint64 {
	return draw(amount, &of.fund)
}

func (h *House) takeCapital(_ *account, amount uint64) uint64 {
	return draw(amount, &h.capital)
}

func (h *House) takeFunds(_ *account, amount uint64) uint64 {
	return draw(amount, h.pots(true, func(a *account) *int64 { return &a.fund })...)
}

func (h *House) takeGains(_ *account, amount uint64) uint64 {
	return draw(amount, h.pots(true, func(a *account) *int64 { return &a.cash })...)
}

func (h *House) takeHole(_ *account, amount uint64) uint64 {
	h.hole += int64(amount)
	return amount
}

// handOver deals the positions of a member that is out among those who have the other sign.
func (h *House) handOver(a *account) {
	for month, position := range a.positions {
		draw(size(position), h.pots(position < 0, func(a *account) *int64 { return &a.positions[month] })...)
		a.positions[month] = 0
	}
}

// pots are the picked numbers of the members that are not out, as far as they are above 0, or below it.
func (h *House) pots(above bool, pick func(a *account) *int64) []*int64 {
	var list []*int64
	for i := range h.accounts {
		a := &h.accounts[i]
		if pot := pick(a); !a.out && *pot != 0 && (*pot > 0) == above {
			list = append(list, pot)
		}
	}
	return list
}
