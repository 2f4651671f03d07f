package settle_test

import (
	"slices"
	"testing"

	"oast/api"
	"oast/settle"
)

// amounts are as many amounts as members, all the same.
func amounts(members int, amount int64) []int64 {
	return slices.Repeat([]int64{amount}, members)
}

// with is a list in which one amount is another one.
func with(l []int64, at int, amount int64) []int64 {
	l = slices.Clone(l)
	l[at] = amount
	return l
}

// P8.1: the least and the greatest worlds.
func TestNew(t *testing.T) {
	for _, members := range []int{1, 2, 17, api.MaxMember} {
		for _, patience := range []int{1, 3, 1000} {
			for _, amount := range []int64{0, 1, api.MaxMoney} {
				money, goods := with(amounts(members, amount), 0, 5), with(amounts(members, amount), members-1, 6)
				w := newWorld(t, patience, money, goods)
				wantBalances(t, w, 1, money...)
				wantBalances(t, w, 2, goods...)
				wantFree(t, w, 1, money...)
				wantFree(t, w, 2, goods...)
				wantBag(t, w)
				for node := range 3 {
					wantUp(t, w, node, true)
					wantLog(t, w, node, 0, 0)
				}
				if l := w.Deals(); len(l) != 0 {
					t.Errorf("Deals: %v", l)
				}
			}
		}
	}
}

// P8.1: configurations that are not valid.
func TestNewRefuses(t *testing.T) {
	good := settle.Config{Members: 2, Patience: 3, Money: []int64{10, 0}, Goods: []int64{0, 5}}
	var wrong []settle.Config
	add := func(change func(c *settle.Config)) {
		c := good
		change(&c)
		wrong = append(wrong, c)
	}
	for _, n := range outside(1, api.MaxMember) {
		add(func(c *settle.Config) { c.Members = n })
	}
	for _, n := range []int{0, api.MaxMember + 1} {
		add(func(c *settle.Config) { c.Members, c.Money, c.Goods = n, amounts(n, 1), amounts(n, 1) })
	}
	for _, n := range outside(1, 1000) {
		add(func(c *settle.Config) { c.Patience = n })
	}
	for _, l := range [][]int64{nil, {}, {1}, {1, 2, 3}} {
		add(func(c *settle.Config) { c.Money = l })
		add(func(c *settle.Config) { c.Goods = l })
		add(func(c *settle.Config) { c.Money, c.Goods = l, l })
	}
	for _, n := range outside(0, api.MaxMoney) {
		for i := range 2 {
			add(func(c *settle.Config) { c.Money = with(good.Money, i, int64(n)) })
			add(func(c *settle.Config) { c.Goods = with(good.Goods, i, int64(n)) })
		}
	}
	for _, c := range append(wrong, settle.Config{}) {
		if w, e := settle.New(c); w != nil || e != api.ErrArg {
			t.Errorf("New(%v): %v, error %d", c, w, e)
		}
	}
}

// wrongDeals are deals that are not valid.
func wrongDeals(members int) []settle.Deal {
	var l []settle.Deal
	for _, n := range outside(1, members) {
		l = append(l, deal(n, 1, 1, 1), deal(1, n, 1, 1), deal(n, n, 1, 1))
	}
	for i := range members {
		l = append(l, deal(i+1, i+1, 0, 0))
	}
	for _, n := range outside(0, api.MaxMoney) {
		l = append(l, deal(1, members, int64(n), 1), deal(members, 1, 1, int64(n)), deal(1, 2, int64(n), int64(n)))
	}
	return l
}

// P8.2: a deal gets the next number, is asking, and both sites are asked.
func TestBegin(t *testing.T) {
	w := newWorld(t, 3, []int64{1, 2, 3}, []int64{4, 5, 6})
	deals := []settle.Deal{deal(1, 3, 0, 0), deal(3, 1, api.MaxMoney, api.MaxMoney), deal(2, 1, 1, 0), deal(2, 1, 1, 0), deal(1, 2, 0, api.MaxMoney)}
	var bag []settle.Message
	for i, d := range deals {
		wantState(t, w, i+1, settle.Unknown)
		wantBegun(t, w, d, i+1)
		bag = append(bag, message(0, 1, settle.Ask, i+1), message(0, 2, settle.Ask, i+1))
		wantBag(t, w, bag...)
		wantState(t, w, i+1, settle.Asking)
		if l := w.Deals(); !slices.Equal(l, deals[:i+1]) {
			t.Errorf("Deals: %v", l)
		}
		wantLog(t, w, 0, 0, 0)
	}
}

// P8.2: deals that are not valid, in the order of the errors.
func TestBeginRefuses(t *testing.T) {
	for _, members := range []int{1, 2, 5} {
		w := newWorld(t, 3, amounts(members, 5), amounts(members, 5))
		for _, d := range wrongDeals(members) {
			wantNotBegun(t, w, d, api.ErrArg)
		}
	}
	w := rich(t, 3)
	wantBegun(t, w, deal(1, 2, 0, 0), 1)
	for len(w.Bag()) <= maxWaiting {
		wantOK(t, "Copy", w.Copy(0))
	}
	wantNotBegun(t, w, deal(1, 2, 0, 0), api.ErrFull)
	wantOK(t, "Crash", w.Crash(0, 0))
	wantNotBegun(t, w, deal(1, 2, 0, 0), api.ErrDown)
	wantNotBegun(t, w, deal(1, 1, 0, 0), api.ErrArg)
	loseAll(t, w)
	wantNotBegun(t, w, deal(1, 2, 0, 0), api.ErrDown)
	wantOK(t, "Restart", w.Restart(0))
	wantBegun(t, w, deal(1, 2, 0, 0), 2)
	wantOK(t, "Fuse", w.Fuse(0, 1))
	deliver(t, w, 4)
	wantUp(t, w, 0, false)
	wantNotBegun(t, w, deal(1, 2, 0, 0), api.ErrDown)
}

// P8.2, P8.3: with 3000 messages there is room, with more there is none.
func TestFullBag(t *testing.T) {
	w := rich(t, 3)
	wantBegun(t, w, deal(1, 2, 0, 0), 1)
	for len(w.Bag()) < maxWaiting {
		wantOK(t, "Copy", w.Copy(1))
	}
	f := w.Fork()
	wantBegun(t, f, deal(1, 2, 0, 0), 2)
	if n := len(f.Bag()); n != maxWaiting+2 {
		t.Errorf("%d messages wait", n)
	}
	wantNotBegun(t, f, deal(1, 2, 0, 0), api.ErrFull)
	wantOK(t, "Lose", f.Lose(0))
	wantNotBegun(t, f, deal(1, 2, 0, 0), api.ErrFull)
	wantRefused(t, "Copy", f, api.ErrFull, func() api.Errno { return f.Copy(0) })
	wantOK(t, "Lose", f.Lose(0))
	wantBegun(t, f, deal(1, 2, 0, 0), 3)

	wantOK(t, "Copy", w.Copy(0))
	wantRefused(t, "Copy", w, api.ErrFull, func() api.Errno { return w.Copy(maxWaiting) })
	wantRefused(t, "Copy", w, api.ErrNone, func() api.Errno { return w.Copy(maxWaiting + 1) })
	wantRefused(t, "Copy", w, api.ErrNone, func() api.Errno { return w.Copy(-1) })
	wantNotBegun(t, w, deal(1, 2, 0, 0), api.ErrFull)
	// What the nodes send has room.
	wantOK(t, "Tick", w.Tick(0))
	if n := len(w.Bag()); n != maxWaiting+3 {
		t.Errorf("%d messages wait", n)
	}
}

// P8.2: there are a thousand deals at most. P8.10: they all end.
func TestFullOfDeals(t *testing.T) {
	w := newWorld(t, 5, amounts(api.MaxMember, 30), amounts(api.MaxMember, 30))
	for i := range maxDeals {
		wantBegun(t, w, deal(1+i%7, 1000-i%5, 10, 10), i+1)
	}
	wantNotBegun(t, w, deal(1, 2, 0, 0), api.ErrFull)
	wantNotBegun(t, w, deal(1, 1, 0, 0), api.ErrArg)
	if n := len(w.Bag()); n != 2*maxDeals {
		t.Errorf("%d messages wait", n)
	}
	deliver(t, w, 3000)
	wantOK(t, "Crash", w.Crash(0, 0))
	wantOK(t, "Crash", w.Crash(2, 0))
	wantNotBegun(t, w, deal(1, 2, 0, 0), api.ErrDown)
	wantHealed(t, w, 1000, 0)
	wantEnded(t, w)
	wantSums(t, w, 30*api.MaxMember, 30*api.MaxMember)
	wantNotBegun(t, w, deal(1, 2, 0, 0), api.ErrFull)
	if n := doneDeals(w); n != 15 { // five sellers have the goods for three each, and the first deals are asked for first
		t.Errorf("%d deals were done", n)
	}
}

// P8.3: messages are taken out, brought to their nodes, and added once more.
func TestMessages(t *testing.T) {
	w := example(t)
	wantBegun(t, w, deal(1, 2, 7, 2), 1)
	wantBegun(t, w, deal(1, 2, 1, 1), 2)
	ask11, ask12 := message(0, 1, settle.Ask, 1), message(0, 2, settle.Ask, 1)
	ask21, ask22 := message(0, 1, settle.Ask, 2), message(0, 2, settle.Ask, 2)
	wantBag(t, w, ask11, ask12, ask21, ask22)
	wantOK(t, "Copy", w.Copy(1))
	wantBag(t, w, ask11, ask12, ask21, ask22, ask12)
	wantOK(t, "Lose", w.Lose(2))
	wantBag(t, w, ask11, ask12, ask22, ask12)
	wantOK(t, "Deliver", w.Deliver(1))
	wantBag(t, w, ask11, ask22, ask12, message(2, 0, settle.Yes, 1))
	wantOK(t, "Copy", w.Copy(3))
	wantOK(t, "Lose", w.Lose(0))
	wantOK(t, "Deliver", w.Deliver(2))
	wantBag(t, w, ask22, ask12, message(2, 0, settle.Yes, 1))
	wantOK(t, "Lose", w.Lose(2))
	wantOK(t, "Deliver", w.Deliver(1))
	wantBag(t, w, ask22, message(2, 0, settle.Yes, 1))
	wantAt(t, w, 1, 1, 0)
	wantAt(t, w, 2, 1, settle.Prepared)
	wantAt(t, w, 2, 2, 0)
	for _, i := range outside(0, 1) {
		wantRefused(t, "Deliver", w, api.ErrNone, func() api.Errno { return w.Deliver(i) })
		wantRefused(t, "Lose", w, api.ErrNone, func() api.Errno { return w.Lose(i) })
		wantRefused(t, "Copy", w, api.ErrNone, func() api.Errno { return w.Copy(i) })
	}
	loseAll(t, w)
	wantRefused(t, "Deliver", w, api.ErrNone, func() api.Errno { return w.Deliver(0) })
	wantRefused(t, "Lose", w, api.ErrNone, func() api.Errno { return w.Lose(0) })
	wantRefused(t, "Copy", w, api.ErrNone, func() api.Errno { return w.Copy(0) })
}

// P8.3: a message to a node that is down is lost.
func TestMessagesToNodesThatAreDown(t *testing.T) {
	w := example(t)
	wantBegun(t, w, deal(1, 2, 7, 2), 1)
	wantOK(t, "Crash", w.Crash(1, 0))
	deliver(t, w, 2)
	wantBag(t, w, message(2, 0, settle.Yes, 1))
	wantLog(t, w, 1, 0, 0)
	wantOK(t, "Crash", w.Crash(0, 0))
	deliver(t, w, 1)
	wantBag(t, w)
	wantOK(t, "Restart", w.Restart(0))
	wantOK(t, "Restart", w.Restart(1))
	wantState(t, w, 1, settle.Unknown)
	wantAt(t, w, 1, 1, 0)
}

// P8.3: a message that is lost in the midst leaves the others in their order, and forks as they were.
func TestBagKeepsItsOrder(t *testing.T) {
	for i := range 6 {
		w := rich(t, 3)
		for n := range 3 {
			wantBegun(t, w, deal(1, 2, 0, 0), n+1)
		}
		f := w.Fork()
		want := w.Bag()
		wantOK(t, "Lose", w.Lose(i))
		wantBag(t, f, want...)
		wantBag(t, w, slices.Delete(slices.Clone(want), i, i+1)...)
		wantOK(t, "Copy", w.Copy(0))
		wantBag(t, f, want...)
	}
}
