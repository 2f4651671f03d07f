package house_test

import (
	"fmt"
	"math/rand/v2"
	"slices"
	"testing"

	"oast/api"
	"oast/house"
)

// step is a call that changes a house.
type step struct {
	call            string
	member, other   int
	month           int
	amount, amount2 int64
}

// result is what such a call returns.
type result struct {
	n    int
	list string
	loss house.Loss
	e    api.Errno
}

func (s step) contract() house.Contract {
	return contract(s.member, s.other, s.month, s.amount, s.amount2)
}

func (s step) of(h *house.House) (r result) {
	var l []int
	switch s.call {
	case "deposit":
		r.e = h.Deposit(s.member, s.amount)
	case "withdraw":
		r.e = h.Withdraw(s.member, s.amount)
	case "contribute":
		r.e = h.Contribute(s.member, s.amount)
	case "trade":
		r.n, r.e = h.Trade(s.contract())
	case "deliver":
		r.e = h.Deliver(s.member, s.other, s.month, s.amount)
	case "mark":
		l, r.e = h.Mark(s.month, s.amount)
	case "default":
		r.loss, r.e = h.Default(s.member)
	}
	r.list = fmt.Sprint(l)
	return r
}

func (s step) ofModel(m *model) (r result) {
	var l []int
	switch s.call {
	case "deposit":
		r.e = m.deposit(s.member, s.amount)
	case "withdraw":
		r.e = m.withdraw(s.member, s.amount)
	case "contribute":
		r.e = m.contribute(s.member, s.amount)
	case "trade":
		r.n, r.e = m.trade(s.contract())
	case "deliver":
		r.e = m.deliver(s.member, s.other, s.month, s.amount)
	case "mark":
		l, r.e = m.mark(s.month, s.amount)
	case "default":
		r.loss, r.e = m.fail(s.member)
	}
	r.list = fmt.Sprint(l)
	return r
}

// scale is how great the numbers of a random house are.
type scale struct{ price, move, qty, money int64 }

func randomScale(r *rand.Rand) scale {
	return []scale{
		{20, 5, 10, 60}, {100, 200, 5, 200}, {5, 3, 3, 10},
		{1000, 1, 100, 500}, // for great losses
		{api.MaxPrice, api.MaxPrice, maxQty, api.MaxMoney}, {api.MaxPrice, 1000, maxQty, api.MaxMoney}, {api.MaxPrice, 10, 1000, api.MaxMoney / 1000},
	}[r.IntN(7)]
}

func randomConfig(r *rand.Rand, s scale) house.Config {
	c := house.Config{Members: 2 + r.IntN(5), Months: 1 + r.IntN(3), Capital: r.Int64N(s.money) * r.Int64N(2)}
	for range c.Months {
		c.Prices = append(c.Prices, 1+r.Int64N(s.price))
	}
	easy := r.IntN(3) > 0 // hardly a margin, so that many fail
	for range r.IntN(5) {
		var moves []int64
		for range c.Months {
			move := r.Int64N(2*s.move+1) - s.move
			if easy {
				move /= 10
			}
			moves = append(moves, move)
		}
		c.Moves = append(c.Moves, moves)
	}
	if !easy {
		c.Rate = []int64{0, 1, 100, 1000, r.Int64N(1001)}[r.IntN(5)]
	}
	if r.IntN(20) == 0 {
		c.Months, c.Prices, c.Moves = 12, slices.Repeat(c.Prices[:1], 12), nil
	}
	return c
}

// slightly is a number that is now and then out of its range.
func slightly[N int | int64](r *rand.Rand, x, least, most N) N {
	switch r.IntN(200) {
	case 0:
		return least - 1
	case 1:
		return most + 1
	case 2:
		return least
	case 3:
		return most
	}
	return x
}

// randomPayment is often about as much as a member can pay.
func (m *model) randomPayment(r *rand.Rand, n int, money int64) int64 {
	x := m.members[n]
	spare := sub(x.cash, m.marginOf(x.positions, m.prices)).Int64() + r.Int64N(2)
	if spare > 0 && spare <= api.MaxMoney && r.IntN(3) > 0 {
		return spare
	}
	return 1 + r.Int64N(money)
}

// randomStep is a call that is not refused too often.
func randomStep(r *rand.Rand, m *model, s scale) step {
	a := 1 + r.IntN(m.c.Members)
	b := 1 + (a+r.IntN(m.c.Members-1))%m.c.Members
	month := slightly(r, r.IntN(m.c.Months), 0, m.c.Months-1)
	x := step{member: slightly(r, a, 1, m.c.Members), other: slightly(r, b, 1, m.c.Members), month: month}
	switch k := r.IntN(40); {
	case k < 6:
		x.call, x.amount = "deposit", slightly(r, 1+r.Int64N(s.money), 1, api.MaxMoney)
	case k < 10:
		x.call, x.amount = "withdraw", slightly(r, m.randomPayment(r, a, s.money), 1, api.MaxMoney)
	case k < 13:
		x.call, x.amount = "contribute", slightly(r, m.randomPayment(r, a, s.money/4), 1, api.MaxMoney)
	case k < 28:
		price := slightly(r, 1+r.Int64N(s.price), 1, api.MaxPrice)
		if month >= 0 && month < m.c.Months && r.IntN(3) > 0 {
			price = m.prices[month].Int64()
		}
		x.call, x.amount, x.amount2 = "trade", slightly(r, 1+r.Int64N(s.qty), 1, maxQty), price
	case k < 30:
		x.call, x.amount = "deliver", slightly(r, 1+r.Int64N(s.qty)/3, 1, maxQty)
	case k < 39:
		x.call, x.amount = "mark", slightly(r, 1+r.Int64N(s.price), 1, api.MaxPrice)
	default:
		x.call = "default"
		for i, a := range m.members {
			if a.cash.Sign() < 0 && !a.out && r.IntN(2) == 0 {
				x.member = i
			}
		}
	}
	return x
}

// tally counts what happened, so that the random calls are known to reach it.
type tally map[string]int

func (c tally) count(s step, r result) {
	c[fmt.Sprint(s.call, " ", r.e)]++
	for i, x := range []int64{r.loss.Own, r.loss.Capital, r.loss.Funds, r.loss.Gains, r.loss.Hole} {
		if x > 0 {
			c[fmt.Sprint("source ", i)]++
		}
	}
}

// wantAtLeast asks for everything that the random calls were to reach.
func (c tally) wantAtLeast(t *testing.T, times int) {
	t.Helper()
	for _, call := range []string{
		"deposit 0", "withdraw 0", "contribute 0", "trade 0", "deliver 0", "mark 0", "default 0", "withdraw 9", "withdraw 90", "contribute 9",
		"contribute 90", "trade 90", "deliver 9", "trade 5", "default 5", "source 0", "source 1", "source 2", "source 3", "source 4",
	} {
		if c[call] < times {
			t.Errorf("%q happened only %d times", call, c[call])
		}
	}
}

// P9.2 to P9.7, P9.9, P9.11: random calls do to a house what they do to the model, also if it is forked in between, or the calls are
// made again; and what the chapter calls consequences holds at all times.
func TestModel(t *testing.T) {
	c := tally{}
	for seed := range uint64(500) {
		r := rand.New(rand.NewPCG(seed, 9))
		s := randomScale(r)
		config := randomConfig(r, s)
		h, m, paid := newHouse(t, config), newModel(config), config.Capital
		var steps []step
		for range 120 {
			x := randomStep(r, m, s)
			steps = append(steps, x)
			before := h
			if r.IntN(8) == 0 {
				h = h.Fork()
			}
			was, forked := pictureOf(before), before != h
			got, want := x.of(h), x.ofModel(m)
			if !m.fits() {
				t.Fatalf("seed %d: the numbers are too great", seed)
			}
			if picture, wanted := pictureOf(h), fmt.Sprint(m.picture()); got != want || picture != wanted {
				t.Errorf("%+v: %+v, %s, want %+v, %s", x, got, picture, want, wanted)
			}
			if forked && pictureOf(before) != was {
				t.Errorf("%+v of a fork changed its house: %s, was %s", x, pictureOf(before), was)
			}
			if got.e != api.OK && pictureOf(h) != was {
				t.Errorf("%+v was refused: %s, was %s", x, pictureOf(h), was)
			}
			paid += x.paid(got.e)
			wantSums(t, h, paid)
			c.count(x, got)
			if t.Failed() {
				t.Fatalf("seed %d, %+v, %+v", seed, config, steps)
			}
		}
		again := newHouse(t, config)
		for _, x := range steps {
			x.of(again)
		}
		if got, want := pictureOf(again), pictureOf(h); got != want {
			t.Errorf("seed %d, the same calls again: %s, want %s", seed, got, want)
		}
	}
	c.wantAtLeast(t, 30)
}

// paid is what a call brings into the house.
func (s step) paid(e api.Errno) int64 {
	switch {
	case e == api.OK && s.call == "deposit":
		return s.amount
	case e == api.OK && s.call == "withdraw":
		return -s.amount
	}
	return 0
}

// wantSums asks for P9.9.
func wantSums(t *testing.T, h *house.House, paid int64) {
	t.Helper()
	wantTotal(t, h, paid)
	var sums []int64
	for member := 1; ; member++ {
		a, e := h.Account(member)
		if e != api.OK {
			break
		}
		if sums == nil {
			sums = make([]int64, len(a.Positions))
		}
		for month, p := range a.Positions {
			sums[month] += p
		}
	}
	for month, x := range sums {
		if x != 0 {
			t.Errorf("the positions in month %d add up to %d", month, x)
		}
	}
}

// accounts are those of all members.
func accounts(h *house.House) []house.Account {
	var l []house.Account
	for member := 1; ; member++ {
		a, e := h.Account(member)
		if e != api.OK {
			return l
		}
		l = append(l, a)
	}
}

// P9.6, P9.11: the order of the sources, and what a default does not touch, without the model.
func TestWaterfallAlways(t *testing.T) {
	losses := 0
	for seed := range uint64(2000) {
		r := rand.New(rand.NewPCG(seed, 911))
		s := randomScale(r)
		config := randomConfig(r, s)
		h, m := newHouse(t, config), newModel(config)
		for range 60 {
			x := randomStep(r, m, s)
			x.of(h)
			x.ofModel(m)
		}
		member := 1 + r.IntN(config.Members)
		before := accounts(h)
		capital, _ := h.Capital()
		if before[member-1].Out {
			continue
		}
		l, e := h.Default(member)
		wantOK(t, "Default", e)
		wantCovered(t, h, before, member, capital, l)
		if l != (house.Loss{}) {
			losses++
		}
		if t.Failed() {
			t.Fatalf("seed %d: member %d of %+v: %+v", seed, member, before, l)
		}
	}
	if losses < 200 {
		t.Errorf("only %d losses", losses)
	}
}

// wantCovered asks for P9.11 after the default of a member.
func wantCovered(t *testing.T, h *house.House, before []house.Account, member int, capital int64, l house.Loss) {
	t.Helper()
	own := before[member-1]
	if sum := l.Own + l.Capital + l.Funds + l.Gains + l.Hole; sum != max(-own.Cash, 0) {
		t.Errorf("the loss is %d, the cash was %d", sum, own.Cash)
	}
	if min(l.Own, l.Capital, l.Funds, l.Gains, l.Hole) < 0 {
		t.Error("a source got something")
	}
	var funds, gains, restOfFunds, restOfGains int64
	for i, a := range accounts(h) {
		was := before[i]
		if i == member-1 || was.Out {
			continue
		}
		if a.Fund < 0 || a.Fund > was.Fund || a.Cash > was.Cash || a.Cash < min(was.Cash, 0) {
			t.Errorf("member %d has %+v, had %+v", i+1, a, was)
		}
		funds, gains = funds+was.Fund-a.Fund, gains+was.Cash-a.Cash
		restOfFunds, restOfGains = restOfFunds+a.Fund, restOfGains+max(a.Cash, 0)
	}
	left, _ := h.Capital()
	now, _ := h.Account(member)
	if funds != l.Funds || gains != l.Gains || capital-left != l.Capital || own.Fund-now.Fund != l.Own || now.Cash != max(own.Cash, 0) {
		t.Errorf("it took %d, %d, %d, %d", own.Fund-now.Fund, capital-left, funds, gains)
	}
	rests := []int64{now.Fund, left, restOfFunds, restOfGains}
	for i, taken := range []int64{l.Capital, l.Funds, l.Gains, l.Hole} {
		if taken > 0 && max(0, slices.Max(rests[:i+1])) > 0 {
			t.Errorf("source %d was used, before it there was %v", i+1, rests[:i+1])
		}
	}
}

// P9.10: who is covered can pay for each scenario.
func TestMarginHolds(t *testing.T) {
	marked, poor := 0, 0
	for seed := range uint64(400) {
		r := rand.New(rand.NewPCG(seed, 910))
		s := scale{price: 1000, move: 300, qty: 20, money: 10000}
		config := randomConfig(r, s)
		config.Rate = 0
		h, m := newHouse(t, config), newModel(config)
		for range 40 {
			x := randomStep(r, m, s)
			x.of(h)
			x.ofModel(m)
		}
		calls := h.Calls()
		for _, moves := range config.Moves {
			f, ok := h.Fork(), true
			for month, move := range moves {
				price, _ := f.Price(month)
				_, e := f.Mark(month, price+move)
				ok = ok && e == api.OK
			}
			if !ok {
				continue
			}
			marked++
			for i, a := range accounts(f) {
				if a.Cash < 0 && !slices.Contains(calls, i+1) {
					t.Errorf("seed %d: member %d was covered, and has %d", seed, i+1, a.Cash)
				}
				if a.Cash < 0 {
					poor++
				}
			}
		}
	}
	if marked < 200 || poor < 50 {
		t.Errorf("only %d scenarios, %d members that could not pay", marked, poor)
	}
}
