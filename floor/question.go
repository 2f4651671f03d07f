package floor

import (
	"oast/api"
	"oast/stock"
)

func (f *Floor) tellMoney(member int) ([]int, api.Errno) {
	if !isMember(member) {
		return nil, api.ErrArg
	}
	all, bound := f.Money(member)
	return []int{int(all), int(bound)}, api.OK
}

func (f *Floor) tellHops(member, grade int) ([]int, api.Errno) {
	if !isMember(member) || !isGrade(grade) {
		return nil, api.ErrArg
	}
	free := f.freeOf(f.register, member)
	return []int{free[grade], int(f.markets[grade].sells[member])}, api.OK
}

func (f *Floor) tellPocket(pocket int) ([]int, api.Errno) {
	p, e := f.register.Pocket(pocket, f.register.Version())
	return []int{p.State, p.Lot, p.Owner, p.Holder}, e
}

func (f *Floor) tellBest(grade int) ([]int, api.Errno) {
	if !isGrade(grade) {
		return nil, api.ErrArg
	}
	var l []int
	for side := api.Buy; side <= api.Sell; side++ {
		price, shown, _ := f.markets[grade].board.Best(side) // both are 0 if there is none
		l = append(l, int(price), int(shown))
	}
	return l, api.OK
}

func (f *Floor) tellLast(grade int) ([]int, api.Errno) {
	if !isGrade(grade) {
		return nil, api.ErrArg
	}
	m := &f.markets[grade]
	return []int{int(m.board.Last()), int(m.reference)}, api.OK
}

func (f *Floor) tellDebt(d debt) ([]int, api.Errno) {
	if !isMember(d.from) || !isMember(d.to) {
		return nil, api.ErrArg
	}
	return []int{int(f.debts[d])}, api.OK
}

func tellSample(seed, n, k int) ([]int, api.Errno) {
	if seed < 0 || k > api.MaxItems {
		return nil, api.ErrArg
	}
	return stock.Sample(uint64(seed), n, k)
}
