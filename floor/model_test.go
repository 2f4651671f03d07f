package floor_test

import (
	"fmt"
	"regexp"
	"slices"
	"strconv"
	"strings"

	"oast/api"
	"oast/call"
	"oast/pair"
	"oast/stock"
)

// model is a floor that is kept by the words of the chapters. It keeps no sums, and trades on boards of its own.
type model struct {
	pockets map[int]stock.Pocket
	money   map[int]int
	grades  map[int]int
	debts   map[[2]int]int
	markets [21]modelMarket
	tape    string
}

type modelMarket struct {
	orders    []modelOrder // that rest, in the order in which they came
	numbers   int
	last      int
	bids      []modelOrder
	reference int
	trades    [][2]int64
}

type modelOrder struct{ number, member, side, price, qty int }

func newModel() *model {
	m := &model{pockets: map[int]stock.Pocket{}, money: map[int]int{}, grades: map[int]int{}, debts: map[[2]int]int{}}
	for i := range m.markets {
		m.markets[i].reference = 1
	}
	return m
}

var aNumber = regexp.MustCompile(`^(0|-?[1-9][0-9]{0,11}|-?1000000000000)$`)

// Do is what the table of the chapter says of a line.
func (m *model) Do(line string) string {
	if len(line) > api.MaxLine {
		return "error 2"
	}
	if line == "" || strings.HasPrefix(line, "#") {
		return ""
	}
	words := strings.Split(line, " ")
	var n []int
	for _, w := range words[1:] {
		if !aNumber.MatchString(w) {
			return "error 100"
		}
		x, _ := strconv.Atoi(w)
		n = append(n, x)
	}
	form := fmt.Sprint(words[0], len(n))
	if words[0] == "fair" {
		form = "fair"
	}
	code, results, asked := m.ask(form, n)
	if !asked {
		code, results = m.command(form, n)
	}
	if code != 0 {
		return fmt.Sprint("error ", code)
	}
	answer := words[0]
	if !asked {
		m.tape += line + "\n"
		answer = "ok"
	}
	for _, x := range results {
		answer += " " + fmt.Sprint(x)
	}
	return answer
}

// command does a line that is no question.
func (m *model) command(form string, n []int) (int, []int) {
	switch form {
	case "enter4":
		return m.enter(n), nil
	case "leave3", "move4", "pledge4":
		return m.giveUp(form, n), nil
	case "release3", "seize3":
		return m.unpledge(form, n), nil
	case "grade2":
		return m.grade(n[0], n[1]), nil
	case "pay2", "draw2":
		return m.cash(form, n[0], n[1]), nil
	case "buy5":
		return m.order(n[0], modelOrder{0, n[1], api.Buy, n[2], n[3]}, n[4])
	case "sell5":
		return m.order(n[0], modelOrder{0, n[1], api.Sell, n[2], n[3]}, n[4])
	case "cancel3":
		return m.cancel(n[0], n[1], n[2]), nil
	case "bid4":
		return m.bid(n[0], modelOrder{0, n[1], api.Buy, n[2], n[3]}), nil
	case "ask4":
		return m.bid(n[0], modelOrder{0, n[1], api.Sell, n[2], n[3]}), nil
	case "call2":
		return m.call(n[0], n[1])
	case "owe3":
		return m.owe(n[0], n[1], n[2]), nil
	case "net0":
		return m.net()
	case "fair":
		return fair(n)
	}
	return 100, nil
}

// ask answers a question.
func (m *model) ask(form string, n []int) (code int, results []int, asked bool) {
	good := true
	switch form {
	case "money1":
		good, results = in(n[0], 1, 1000), []int{m.money[n[0]], m.openBuys(n[0])}
	case "hops2":
		if good = in(n[0], 1, 1000) && in(n[1], 1, 20); good {
			results = []int{m.free(n[0], n[1]), m.openSells(n[0], n[1])}
		}
	case "pocket1":
		p := m.pockets[n[0]]
		good, results = in(n[0], 1, api.MaxPocket), []int{p.State, p.Lot, p.Owner, p.Holder}
	case "best1":
		if good = in(n[0], 1, 20); good {
			results = append(m.best(n[0], api.Buy), m.best(n[0], api.Sell)...)
		}
	case "last1":
		if good = in(n[0], 1, 20); good {
			results = []int{m.markets[n[0]].last, m.markets[n[0]].reference}
		}
	case "debt2":
		good, results = in(n[0], 1, 1000) && in(n[1], 1, 1000), []int{m.debts[[2]int{n[0], n[1]}]}
	case "sample3":
		var e api.Errno
		results, e = stock.Sample(uint64(n[0]), n[1], n[2])
		good = e == api.OK && n[0] >= 0 && n[2] <= api.MaxItems
	case "audit0":
		results = []int{int(m.Total()), m.Pockets()}
	default:
		return 0, nil, false
	}
	if !good {
		return 1, nil, true
	}
	return 0, results, true
}

func in(x, least, most int) bool { return x >= least && x <= most }

func (m *model) Tape() string { return m.tape }

func (m *model) Money(member int) (all, bound int64) {
	return int64(m.money[member]), int64(m.openBuys(member))
}

func (m *model) Owner(pocket int) int { return m.pockets[pocket].Owner }

func (m *model) Total() int64 {
	total := 0
	for _, x := range m.money {
		total += x
	}
	return int64(total)
}

func (m *model) Pockets() int {
	count := 0
	for _, p := range m.pockets {
		if p.State == stock.In {
			count++
		}
	}
	return count
}

func (m *model) Trades(grade int) [][2]int64 {
	if !in(grade, 1, 20) {
		return nil
	}
	return m.markets[grade].trades
}

// openBuys is what a member's buying orders and bids cost, on all boards and in all auctions.
func (m *model) openBuys(member int) int {
	sum := 0
	for _, k := range m.markets {
		for _, x := range slices.Concat(k.orders, k.bids) {
			if x.member == member && x.side == api.Buy {
				sum += x.price * x.qty
			}
		}
	}
	return sum
}

func (m *model) openSells(member, grade int) int {
	sum := 0
	for _, x := range slices.Concat(m.markets[grade].orders, m.markets[grade].bids) {
		if x.member == member && x.side == api.Sell {
			sum += x.qty
		}
	}
	return sum
}

// freePockets are those of a grade that a member could sell, rising.
func (m *model) freePockets(member, grade int) []int {
	var l []int
	for n, p := range m.pockets {
		if p.Owner == member && p.Holder == 0 && grade != 0 && m.grades[p.Lot] == grade {
			l = append(l, n)
		}
	}
	slices.Sort(l)
	return l
}

func (m *model) free(member, grade int) int { return len(m.freePockets(member, grade)) }

func validSpan(n []int) bool {
	return in(n[0], 1, api.MaxPocket) && in(n[1], 1, api.MaxPocket) && n[0]+n[1]-1 <= api.MaxPocket
}

func (m *model) enter(n []int) int {
	if !validSpan(n) || !in(n[2], 1, api.MaxLot) || !in(n[3], 1, 1000) {
		return 1
	}
	for p := n[0]; p < n[0]+n[1]; p++ {
		if m.pockets[p].State != stock.Outside {
			return 5
		}
	}
	for p := n[0]; p < n[0]+n[1]; p++ {
		m.pockets[p] = stock.Pocket{State: stock.In, Lot: n[2], Owner: n[3]}
	}
	return 0
}

func (m *model) giveUp(form string, n []int) int {
	if !validSpan(n) || !in(n[2], 1, 1000) || len(n) > 3 && (!in(n[3], 1, 1000) || form == "move4" && n[2] == n[3]) {
		return 1
	}
	lost := map[int]int{}
	for p := n[0]; p < n[0]+n[1]; p++ {
		x := m.pockets[p]
		switch {
		case x.State != stock.In:
			return 4
		case x.Owner != n[2]:
			return 8
		case x.Holder != 0:
			return 10
		}
		lost[m.grades[x.Lot]]++
	}
	for grade := 1; grade <= 20; grade++ {
		if lost[grade] > 0 && m.free(n[2], grade)-lost[grade] < m.openSells(n[2], grade) {
			return 9
		}
	}
	for p := n[0]; p < n[0]+n[1]; p++ {
		x := m.pockets[p]
		switch form {
		case "leave3":
			x = stock.Pocket{State: stock.Gone}
		case "move4":
			x.Owner = n[3]
		case "pledge4":
			x.Holder = n[3]
		}
		m.pockets[p] = x
	}
	return 0
}

func (m *model) unpledge(form string, n []int) int {
	if !validSpan(n) || !in(n[2], 1, 1000) {
		return 1
	}
	for p := n[0]; p < n[0]+n[1]; p++ {
		if m.pockets[p].State != stock.In {
			return 4
		}
		if m.pockets[p].Holder != n[2] {
			return 10
		}
	}
	for p := n[0]; p < n[0]+n[1]; p++ {
		x := m.pockets[p]
		if x.Holder = 0; form == "seize3" {
			x.Owner = n[2]
		}
		m.pockets[p] = x
	}
	return 0
}

func (m *model) grade(lot, grade int) int {
	if !in(lot, 1, api.MaxLot) || !in(grade, 1, 20) {
		return 1
	}
	if was := m.grades[lot]; was != 0 && was != grade {
		return 5
	}
	m.grades[lot] = grade
	return 0
}

func (m *model) cash(form string, member, amount int) int {
	if !in(member, 1, 1000) || !in(amount, 1, api.MaxMoney) {
		return 1
	}
	if form == "draw2" {
		if m.money[member]-amount < m.openBuys(member) {
			return 9
		}
		m.money[member] -= amount
		return 0
	}
	if m.money[member]+amount > api.MaxMoney {
		return 1
	}
	m.money[member] += amount
	return 0
}

// fair reads the form of a fair.
func fair(n []int) (int, []int) {
	fits := true
	next := func() int {
		if len(n) == 0 {
			fits = false
			return 0
		}
		x := n[0]
		n = n[1:]
		return x
	}
	part := func() []int {
		length := next()
		if length < 0 || length > len(n) {
			fits = false
			return nil
		}
		l := n[:length]
		n = n[length:]
		return l
	}
	growers, brewers := next(), next()
	if growers < 0 || brewers < 0 {
		return 100, nil
	}
	var f pair.Fair
	for i := 0; i < growers && fits; i++ {
		f.Growers = append(f.Growers, part())
	}
	for i := 0; i < brewers && fits; i++ {
		f.Quotas = append(f.Quotas, next())
		f.Brewers = append(f.Brewers, part())
	}
	if !fits || len(n) > 0 {
		return 100, nil
	}
	l, e := pair.Growers(f)
	return int(e), l
}

// net settles the debts pair by pair, as chapter 6 says.
func (m *model) net() (int, []int) {
	positions := map[int]int{}
	for d, x := range m.debts {
		positions[d[0]] -= x
		positions[d[1]] += x
	}
	if len(positions) == 0 {
		return 5, nil
	}
	for member, x := range positions {
		if x < 0 && -x > m.money[member]-m.openBuys(member) {
			return 9, nil
		}
	}
	transfers := 0
	for ; ; transfers++ {
		from, to := 0, 0
		for member := 1; member <= 1000; member++ {
			if positions[member] < positions[from] {
				from = member
			}
			if positions[member] > positions[to] {
				to = member
			}
		}
		if from == 0 {
			break
		}
		x := min(-positions[from], positions[to])
		m.money[from], m.money[to] = m.money[from]-x, m.money[to]+x
		positions[from], positions[to] = positions[from]+x, positions[to]-x
	}
	clear(m.debts)
	return 0, []int{transfers}
}

func (m *model) owe(a, b, x int) int {
	if !in(a, 1, 1000) || !in(b, 1, 1000) || a == b || !in(x, 1, api.MaxDebt) {
		return 1
	}
	met := map[int]bool{a: true, b: true}
	for d := range m.debts {
		met[d[0]], met[d[1]] = true, true
	}
	if m.debts[[2]int{a, b}]+x > api.MaxDebt || len(met) > api.MaxParties {
		return 6
	}
	m.debts[[2]int{a, b}] += x
	return 0
}

// first is the place of the front of a side, or -1.
func (k *modelMarket) first(side int) int {
	at := -1
	for i, x := range k.orders {
		if x.side == side && (at < 0 || side == api.Buy && x.price > k.orders[at].price || side == api.Sell && x.price < k.orders[at].price) {
			at = i
		}
	}
	return at
}

func (m *model) best(grade, side int) []int {
	k := &m.markets[grade]
	at := k.first(side)
	if at < 0 {
		return []int{0, 0}
	}
	shown := 0
	for _, x := range k.orders {
		if x.side == side && x.price == k.orders[at].price {
			shown += x.qty
		}
	}
	return []int{k.orders[at].price, shown}
}

// good tells whether the price of a resting order is good for one that comes in.
func good(o, rests modelOrder) bool {
	switch {
	case o.side == rests.side:
		return false
	case o.price == 0:
		return true
	case o.side == api.Buy:
		return rests.price <= o.price
	}
	return rests.price >= o.price
}

// meet tells what an order trades, and what is on the board then.
func (k *modelMarket) meet(o modelOrder, force int) (orders []modelOrder, met []modelOrder, left int) {
	fillable := 0
	for _, x := range k.orders {
		if good(o, x) && x.member != o.member {
			fillable += x.qty
		}
	}
	board := modelMarket{orders: slices.Clone(k.orders)}
	if force == 3 && fillable < o.qty {
		return board.orders, nil, 0
	}
	for left = o.qty; left > 0; {
		at := board.first(api.Buy + api.Sell - o.side)
		if at < 0 || !good(o, board.orders[at]) {
			break
		}
		x := board.orders[at]
		if x.member == o.member || x.qty <= left {
			board.orders = slices.Delete(board.orders, at, at+1)
		}
		if x.member == o.member {
			continue
		}
		if x.qty > left {
			board.orders[at].qty -= left
			x.qty = left
		}
		left -= x.qty
		met = append(met, x)
	}
	return board.orders, met, left
}

func (m *model) order(grade int, o modelOrder, force int) (int, []int) {
	if !in(grade, 1, 20) || !in(o.member, 1, 1000) || !in(o.price, 0, api.MaxPrice) || !in(o.qty, 1, api.MaxQty) || !in(force, 1, 4) ||
		o.price == 0 && force != 2 && force != 3 {
		return 1, nil
	}
	k := &m.markets[grade]
	orders, met, left := k.meet(o, force)
	cost := o.price * o.qty
	if o.price == 0 {
		for _, x := range met {
			cost += x.price * x.qty
		}
	}
	if o.side == api.Buy && m.openBuys(o.member)+cost > m.money[o.member] || o.side == api.Sell && m.openSells(o.member, grade)+o.qty > m.free(o.member, grade) {
		return 9, nil
	}
	if len(k.orders) >= api.MaxOrders {
		return 6, nil
	}
	if at := k.first(api.Buy + api.Sell - o.side); force == 4 && at >= 0 && good(o, k.orders[at]) {
		return 20, nil
	}
	k.numbers++
	k.orders = orders
	results := []int{k.numbers}
	for _, x := range met {
		k.last = x.price
		if o.side == api.Buy {
			m.settle(grade, o.member, x.member, x.price, x.qty)
		} else {
			m.settle(grade, x.member, o.member, x.price, x.qty)
		}
		results = append(results, x.price, x.qty)
	}
	if left > 0 && (force == 1 || force == 4) {
		o.number, o.qty = k.numbers, left
		k.orders = append(k.orders, o)
	}
	return 0, results
}

func (m *model) settle(grade, buyer, seller, price, qty int) {
	m.markets[grade].trades = append(m.markets[grade].trades, [2]int64{int64(price), int64(qty)})
	if buyer == seller {
		return
	}
	for _, n := range m.freePockets(seller, grade)[:qty] {
		p := m.pockets[n]
		p.Owner = buyer
		m.pockets[n] = p
	}
	m.money[buyer] -= price * qty
	m.money[seller] += price * qty
}

func (m *model) cancel(grade, number, member int) int {
	if !in(grade, 1, 20) {
		return 1
	}
	k := &m.markets[grade]
	at := slices.IndexFunc(k.orders, func(x modelOrder) bool { return x.number == number })
	if at < 0 {
		return 4
	}
	if k.orders[at].member != member {
		return 8
	}
	k.orders = slices.Delete(k.orders, at, at+1)
	return 0
}

func (m *model) bid(grade int, x modelOrder) int {
	if !in(grade, 1, 20) || !in(x.member, 1, 1000) || !in(x.price, 1, api.MaxPrice) || !in(x.qty, 1, api.MaxQty) {
		return 1
	}
	k := &m.markets[grade]
	if len(k.bids) == 500 {
		return 6
	}
	if x.side == api.Buy && m.openBuys(x.member)+x.price*x.qty > m.money[x.member] || x.side == api.Sell && m.openSells(x.member, grade)+x.qty > m.free(x.member, grade) {
		return 9
	}
	k.bids = append(k.bids, x)
	return 0
}

// call holds an auction; it pairs who trades pocket by pocket.
func (m *model) call(grade, rule int) (int, []int) {
	if !in(grade, 1, 20) || !in(rule, 1, 2) {
		return 1, nil
	}
	k := &m.markets[grade]
	var l []call.Bid
	for _, x := range k.bids {
		l = append(l, call.Bid{Side: x.side, Price: int64(x.price), Qty: int64(x.qty)})
	}
	r, e := call.Clear(l, int64(k.reference), rule)
	if e != api.OK {
		return int(e), nil
	}
	var buyers, sellers []int // the place of the bid, for each pocket
	for i, x := range k.bids {
		for range r.Fills[i] {
			if x.side == api.Buy {
				buyers = append(buyers, i)
			} else {
				sellers = append(sellers, i)
			}
		}
	}
	bids := k.bids
	k.bids, k.reference = nil, int(r.Price)
	pairs := 0
	for len(buyers) > 0 {
		n := 1
		for n < len(buyers) && buyers[n] == buyers[0] && sellers[n] == sellers[0] {
			n++
		}
		m.settle(grade, bids[buyers[0]].member, bids[sellers[0]].member, k.reference, n)
		buyers, sellers = buyers[n:], sellers[n:]
		pairs++
	}
	return 0, []int{k.reference, int(r.Volume), pairs}
}
