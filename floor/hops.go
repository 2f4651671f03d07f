package floor

import (
	"oast/api"
	"oast/stock"
)

func (f *Floor) enter(at api.Span, lot, owner int) api.Errno {
	e := f.register.Enter(at, lot, owner)
	if e == api.OK {
		f.pockets += at.Count
	}
	return e
}

func (f *Floor) leave(at api.Span, owner int) api.Errno {
	e := f.giveUp(owner, func(s *stock.Stock) api.Errno { return s.Leave(at, owner) })
	if e == api.OK {
		f.pockets -= at.Count
	}
	return e
}

// giveUp makes a change by which a member has fewer pockets that are not pledged, unless less than what is bound would be left. It is
// tried on a fork, as what the register says of it comes first.
func (f *Floor) giveUp(member int, change func(*stock.Stock) api.Errno) api.Errno {
	next := f.register.Fork()
	if e := change(next); e != api.OK {
		return e
	}
	free := f.freeOf(next, member)
	for grade, m := range f.markets {
		if int64(free[grade]) < m.sells[member] {
			return api.ErrFunds
		}
	}
	f.register = next
	return api.OK
}

func (f *Floor) grade(lot, grade int) api.Errno {
	if lot < 1 || lot > api.MaxLot || !isGrade(grade) {
		return api.ErrArg
	}
	if was, ok := f.grades[lot]; ok && was != grade {
		return api.ErrState
	}
	f.grades[lot] = grade
	return api.OK
}

// looseOf returns the holds of a member that are not pledged, by their pockets rising.
func looseOf(s *stock.Stock, member int) []stock.Hold {
	var loose []stock.Hold
	holds, _ := s.Holds(member, s.Version())
	for _, h := range holds {
		if h.Holder == 0 {
			loose = append(loose, h)
		}
	}
	return loose
}

// freeOf counts the pockets of a member that are not pledged, by the grades of their lots; those of lots without one are at 0.
func (f *Floor) freeOf(s *stock.Stock, member int) (free [maxGrade + 1]int) {
	for _, h := range looseOf(s, member) {
		free[f.grades[h.Lot]] += h.Span.Count
	}
	return free
}

// deliver moves pockets of a grade from the seller, who has so many, to the buyer.
func (f *Floor) deliver(grade, seller, buyer, qty int) {
	for _, h := range looseOf(f.register, seller) {
		if f.grades[h.Lot] == grade && qty > 0 {
			n := min(qty, h.Span.Count)
			f.register.Move(api.Span{From: h.Span.From, Count: n}, seller, buyer)
			qty -= n
		}
	}
}
