package house_test

import (
	"math/big"
	"slices"
	"sort"

	"oast/api"
	"oast/house"
)

// model is a house that is kept by the words of the chapter, in numbers of any size.
type model struct {
	c         house.Config
	members   []member // the first one is nobody
	prices    []*big.Int
	capital   *big.Int
	hole      *big.Int
	contracts []house.Contract
}

type member struct {
	cash, fund *big.Int
	positions  []*big.Int
	out        bool
}

func num(x int64) *big.Int         { return big.NewInt(x) }
func add(a, b *big.Int) *big.Int   { return new(big.Int).Add(a, b) }
func sub(a, b *big.Int) *big.Int   { return new(big.Int).Sub(a, b) }
func mul(a, b *big.Int) *big.Int   { return new(big.Int).Mul(a, b) }
func abs(a *big.Int) *big.Int      { return new(big.Int).Abs(a) }
func least(a, b *big.Int) *big.Int { return pick(a.Cmp(b) <= 0, a, b) }
func most(a, b *big.Int) *big.Int  { return pick(a.Cmp(b) >= 0, a, b) }

func pick(first bool, a, b *big.Int) *big.Int {
	if first {
		return a
	}
	return b
}

func newModel(c house.Config) *model {
	m := &model{c: c, capital: num(c.Capital), hole: num(0)}
	for range c.Members + 1 {
		x := member{cash: num(0), fund: num(0)}
		for range c.Months {
			x.positions = append(x.positions, num(0))
		}
		m.members = append(m.members, x)
	}
	for _, p := range c.Prices {
		m.prices = append(m.prices, num(p))
	}
	return m
}

func (m *model) fork() *model {
	f := *m
	f.members, f.prices, f.contracts = slices.Clone(m.members), slices.Clone(m.prices), slices.Clone(m.contracts)
	for i := range f.members {
		f.members[i].positions = slices.Clone(m.members[i].positions)
	}
	return &f
}

// lossIn is what positions lose in a scenario.
func (m *model) lossIn(scenario int, positions []*big.Int) *big.Int {
	loss := num(0)
	for month, p := range positions {
		loss = sub(loss, mul(p, num(m.c.Moves[scenario][month])))
	}
	return loss
}

func (m *model) marginOf(positions, prices []*big.Int) *big.Int {
	margin := num(0)
	for scenario := range m.c.Moves {
		margin = most(margin, m.lossIn(scenario, positions))
	}
	span := num(0)
	for month, p := range positions {
		span = add(span, mul(abs(p), prices[month]))
	}
	part, rest := new(big.Int).QuoRem(mul(span, num(m.c.Rate)), num(1000), new(big.Int))
	if rest.Sign() > 0 {
		part = add(part, num(1))
	}
	return add(margin, part)
}

func (m *model) isCovered(x member) bool {
	return x.cash.Cmp(m.marginOf(x.positions, m.prices)) >= 0
}

func (m *model) has(n int) bool { return n >= 1 && n <= m.c.Members }

func (m *model) checkPayer(n int, amount int64) api.Errno {
	switch {
	case !m.has(n):
		return api.ErrNone
	case m.members[n].out:
		return api.ErrState
	case amount < 1 || amount > api.MaxMoney:
		return api.ErrArg
	}
	return api.OK
}

func (m *model) deposit(n int, amount int64) api.Errno {
	e := m.checkPayer(n, amount)
	if e == api.OK {
		m.members[n].cash = add(m.members[n].cash, num(amount))
	}
	return e
}

func (m *model) withdraw(n int, amount int64) api.Errno {
	if e := m.checkPayer(n, amount); e != api.OK {
		return e
	}
	x := m.members[n]
	if x.cash.Cmp(num(amount)) < 0 {
		return api.ErrFunds
	}
	x.cash = sub(x.cash, num(amount))
	if !m.isCovered(x) {
		return api.ErrMargin
	}
	m.members[n] = x
	return api.OK
}

func (m *model) contribute(n int, amount int64) api.Errno {
	e := m.withdraw(n, amount)
	if e == api.OK {
		m.members[n].fund = add(m.members[n].fund, num(amount))
	}
	return e
}

func (m *model) checkPair(a, b, month int, qty, price int64) api.Errno {
	switch {
	case !m.has(a) || !m.has(b) || month < 0 || month >= m.c.Months:
		return api.ErrNone
	case a == b || qty < 1 || qty > maxQty || price < 1 || price > api.MaxPrice:
		return api.ErrArg
	case m.members[a].out || m.members[b].out:
		return api.ErrState
	}
	return api.OK
}

func (m *model) trade(c house.Contract) (int, api.Errno) {
	if e := m.checkPair(c.Buyer, c.Seller, c.Month, c.Qty, c.Price); e != api.OK {
		return 0, e
	}
	f := m.fork()
	gain := mul(num(c.Qty), sub(m.prices[c.Month], num(c.Price)))
	f.move(c.Buyer, c.Month, num(c.Qty), gain)
	f.move(c.Seller, c.Month, num(-c.Qty), sub(num(0), gain))
	for _, n := range []int{c.Buyer, c.Seller} {
		was, is := m.members[n], f.members[n]
		notWorse := f.marginOf(is.positions, m.prices).Cmp(m.marginOf(was.positions, m.prices)) <= 0 && is.cash.Cmp(was.cash) >= 0
		if !f.isCovered(is) && !notWorse {
			return 0, api.ErrMargin
		}
	}
	f.contracts = append(f.contracts, c)
	*m = *f
	return len(m.contracts), api.OK
}

func (m *model) move(n, month int, qty, gain *big.Int) {
	x := &m.members[n]
	x.positions[month] = add(x.positions[month], qty)
	x.cash = add(x.cash, gain)
}

func (m *model) deliver(a, b, month int, qty int64) api.Errno {
	if e := m.checkPair(a, b, month, qty, 1); e != api.OK {
		return e
	}
	if m.members[a].positions[month].Cmp(num(qty)) < 0 || m.members[b].positions[month].Cmp(num(-qty)) > 0 {
		return api.ErrFunds
	}
	m.move(a, month, num(-qty), num(0))
	m.move(b, month, num(qty), num(0))
	return api.OK
}

func (m *model) mark(month int, price int64) ([]int, api.Errno) {
	switch {
	case month < 0 || month >= m.c.Months:
		return nil, api.ErrNone
	case price < 1 || price > api.MaxPrice:
		return nil, api.ErrArg
	}
	change := sub(num(price), m.prices[month])
	for n := range m.members {
		m.move(n, month, num(0), mul(m.members[n].positions[month], change))
	}
	m.prices[month] = num(price)
	return m.calls(), api.OK
}

func (m *model) calls() []int {
	var l []int
	for n, x := range m.members {
		if !x.out && !m.isCovered(x) {
			l = append(l, n)
		}
	}
	return l
}

// deal deals an amount, or as much as the weights are together, to those that have a weight.
func deal(amount *big.Int, weights map[int]*big.Int) (map[int]*big.Int, *big.Int) {
	all := num(0)
	var order []int
	for n, w := range weights {
		all = add(all, w)
		order = append(order, n)
	}
	amount = least(amount, all)
	given, rests, left := map[int]*big.Int{}, map[int]*big.Int{}, amount
	if amount.Sign() == 0 {
		return given, amount
	}
	for n, w := range weights {
		given[n], rests[n] = new(big.Int).QuoRem(mul(amount, w), all, new(big.Int))
		left = sub(left, given[n])
	}
	sort.Slice(order, func(i, j int) bool {
		a, b := order[i], order[j]
		return rests[a].Cmp(rests[b]) > 0 || rests[a].Cmp(rests[b]) == 0 && a < b
	})
	for _, n := range order[:left.Int64()] {
		given[n] = add(given[n], num(1))
	}
	return given, amount
}

// others are all other members that are not out.
func (m *model) others(n int) []int {
	var l []int
	for i := 1; i <= m.c.Members; i++ {
		if i != n && !m.members[i].out {
			l = append(l, i)
		}
	}
	return l
}

func (m *model) fail(n int) (house.Loss, api.Errno) {
	switch {
	case !m.has(n):
		return house.Loss{}, api.ErrNone
	case m.members[n].out:
		return house.Loss{}, api.ErrState
	}
	for month := range m.c.Months {
		m.takeOver(n, month)
	}
	m.members[n].out = true
	return m.payFor(n), api.OK
}

func (m *model) takeOver(n, month int) {
	p := m.members[n].positions[month]
	weights := map[int]*big.Int{}
	for _, i := range m.others(n) {
		if o := m.members[i].positions[month]; o.Sign()*p.Sign() < 0 {
			weights[i] = abs(o)
		}
	}
	given, _ := deal(abs(p), weights)
	for i, x := range given {
		m.move(i, month, mul(x, num(int64(p.Sign()))), num(0))
	}
	m.members[n].positions[month] = num(0)
}

func (m *model) payFor(n int) house.Loss {
	x := &m.members[n]
	if x.cash.Sign() >= 0 {
		return house.Loss{}
	}
	loss := abs(x.cash)
	x.cash = num(0)

	own := least(loss, x.fund)
	x.fund, loss = sub(x.fund, own), sub(loss, own)

	capital := least(loss, m.capital)
	m.capital, loss = sub(m.capital, capital), sub(loss, capital)

	funds, cash := map[int]*big.Int{}, map[int]*big.Int{}
	for _, i := range m.others(n) {
		funds[i] = m.members[i].fund
		cash[i] = most(m.members[i].cash, num(0))
	}
	given, fromFunds := deal(loss, funds)
	for i, part := range given {
		m.members[i].fund = sub(m.members[i].fund, part)
	}
	loss = sub(loss, fromFunds)

	given, gains := deal(loss, cash)
	for i, part := range given {
		m.members[i].cash = sub(m.members[i].cash, part)
	}
	loss = sub(loss, gains)

	m.hole = add(m.hole, loss)
	return house.Loss{Own: own.Int64(), Capital: capital.Int64(), Funds: fromFunds.Int64(), Gains: gains.Int64(), Hole: loss.Int64()}
}

func (m *model) worst(n int) [2]int64 {
	at, greatest := -1, num(0)
	for scenario := range m.c.Moves {
		if loss := m.lossIn(scenario, m.members[n].positions); loss.Cmp(greatest) > 0 {
			at, greatest = scenario, loss
		}
	}
	return [2]int64{int64(at), greatest.Int64()}
}

// stress is what is missing after a scenario.
func (m *model) stress(scenario int) []int64 {
	f := m.fork()
	for month, p := range f.prices {
		f.prices[month] = most(add(p, num(m.c.Moves[scenario][month])), num(1))
		for n := range f.members {
			f.move(n, month, num(0), mul(f.members[n].positions[month], sub(f.prices[month], p)))
		}
	}
	var l []int64
	for _, x := range f.members[1:] {
		l = append(l, most(sub(f.marginOf(x.positions, f.prices), x.cash), num(0)).Int64())
	}
	return l
}

func (m *model) total() *big.Int {
	total := sub(m.capital, m.hole)
	for _, x := range m.members {
		total = add(total, add(x.cash, x.fund))
	}
	return total
}

// fits tells whether all that the house keeps or tells is in the range of int64.
func (m *model) fits() bool {
	l := []*big.Int{m.capital, m.hole, m.total()}
	for _, x := range m.members {
		l = append(append(l, x.cash, x.fund, m.marginOf(x.positions, m.prices)), x.positions...)
	}
	return !slices.ContainsFunc(l, func(x *big.Int) bool { return !x.IsInt64() })
}

// picture is what the house that the model is of tells of itself.
func (m *model) picture() picture {
	p := picture{calls: m.calls(), capital: m.capital.Int64(), hole: m.hole.Int64(), contracts: m.contracts, total: m.total().Int64()}
	for n, x := range m.members[1:] {
		a := house.Account{Cash: x.cash.Int64(), Fund: x.fund.Int64(), Out: x.out}
		for _, q := range x.positions {
			a.Positions = append(a.Positions, q.Int64())
		}
		p.accounts = append(p.accounts, a)
		p.margins = append(p.margins, m.marginOf(x.positions, m.prices).Int64())
		p.worst = append(p.worst, m.worst(n+1))
	}
	for _, x := range m.prices {
		p.prices = append(p.prices, x.Int64())
	}
	for scenario := range m.c.Moves {
		p.stress = append(p.stress, m.stress(scenario))
	}
	return p
}
