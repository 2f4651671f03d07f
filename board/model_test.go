package board_test

import (
	"cmp"
	"math/rand"
	"slices"
	"testing"

	"oast/api"
	"oast/board"
)

// model is a board that is kept as the chapter defines it: orders in a list, each with the time at which it joined its queue.
type model struct {
	numbers, time int
	last          int64
	resting       []paper
	waiting       []paper
}

type paper struct {
	number, since int
	o             board.Order
	left, shown   int64
}

func (m *model) fork() *model {
	f := *m
	f.resting, f.waiting = slices.Clone(m.resting), slices.Clone(m.waiting)
	return &f
}

// good is the chapter's: whether a price is good for an order that comes in.
func good(o board.Order, price int64) bool {
	return o.Kind == board.Market || o.Side == buy && price <= o.Price || o.Side == sell && price >= o.Price
}

// side is the resting orders of a side in the order in which they are met.
func (m *model) side(side int) []paper {
	l := slices.DeleteFunc(slices.Clone(m.resting), func(p paper) bool { return p.o.Side != side })
	slices.SortFunc(l, func(p, q paper) int {
		if side == buy && p.o.Price != q.o.Price {
			return cmp.Compare(q.o.Price, p.o.Price)
		}
		return cmp.Or(cmp.Compare(p.o.Price, q.o.Price), cmp.Compare(p.since, q.since))
	})
	return l
}

func (m *model) drop(number int) {
	is := func(p paper) bool { return p.number == number }
	m.resting, m.waiting = slices.DeleteFunc(m.resting, is), slices.DeleteFunc(m.waiting, is)
}

// show puts an order at the end of its queue.
func (m *model) show(p paper) {
	m.drop(p.number)
	m.time++
	p.since, p.shown = m.time, p.left
	if p.o.Peak != 0 {
		p.shown = min(p.o.Peak, p.left)
	}
	m.resting = append(m.resting, p)
}

func (m *model) comeIn(p paper) []board.Event {
	var l []board.Event
	against := m.side(3 - p.o.Side)
	if p.o.Force == board.Post && len(against) > 0 && good(p.o, against[0].o.Price) {
		return []board.Event{told(board.Refused, p.number, p.left)}
	}
	if p.o.Force == board.All {
		sum := int64(0)
		for _, q := range against {
			if good(p.o, q.o.Price) && q.o.Member != p.o.Member {
				sum += q.left
			}
		}
		if sum < p.o.Qty {
			return []board.Event{told(board.Killed, p.number, p.left)}
		}
	}
	for ; p.left > 0 && len(against) > 0 && good(p.o, against[0].o.Price); against = m.side(3 - p.o.Side) {
		q := against[0]
		if q.o.Member == p.o.Member {
			l = append(l, told(board.Removed, q.number, q.left))
			m.drop(q.number)
			continue
		}
		n := min(p.left, q.shown)
		p.left, q.left, q.shown, m.last = p.left-n, q.left-n, q.shown-n, q.o.Price
		l = append(l, traded(p.number, q.number, q.o.Price, n))
		switch {
		case q.left == 0:
			m.drop(q.number)
		case q.shown == 0:
			m.show(q)
		default:
			i := slices.IndexFunc(m.resting, func(r paper) bool { return r.number == q.number })
			m.resting[i] = q
		}
	}
	switch {
	case p.left == 0:
		return l
	case p.o.Force == board.Rest || p.o.Force == board.Post:
		m.show(p)
		return append(l, rested(p.number, p.o.Price, p.left))
	}
	return append(l, told(board.Cancelled, p.number, p.left))
}

func (m *model) triggers() []board.Event {
	var l []board.Event
	for {
		i := slices.IndexFunc(m.waiting, func(p paper) bool {
			return m.last != 0 && (p.o.Side == buy && m.last >= p.o.Stop || p.o.Side == sell && m.last <= p.o.Stop)
		})
		if i < 0 {
			return l
		}
		p := m.waiting[i]
		m.drop(p.number)
		l = append(l, told(board.Triggered, p.number, p.left))
		l = append(l, m.comeIn(p)...)
	}
}

// enter enters an order that is valid, on a board that is not full.
func (m *model) enter(o board.Order) (int, []board.Event, api.Errno) {
	if against := m.side(3 - o.Side); o.Force == board.Post && o.Stop == 0 && len(against) > 0 && good(o, against[0].o.Price) {
		return 0, nil, api.ErrCross
	}
	m.numbers++
	p := paper{number: m.numbers, o: o, left: o.Qty}
	var l []board.Event
	if o.Stop != 0 {
		m.waiting = append(m.waiting, p)
		l = []board.Event{told(board.Waits, p.number, p.left)}
	} else {
		l = m.comeIn(p)
	}
	return p.number, append(l, m.triggers()...), api.OK
}

// find returns an order, and whether it waits.
func (m *model) find(number int) (p paper, waits, ok bool) {
	for _, p := range m.resting {
		if p.number == number {
			return p, false, true
		}
	}
	for _, p := range m.waiting {
		if p.number == number {
			return p, true, true
		}
	}
	return paper{}, false, false
}

func (m *model) cancel(number, member int) ([]board.Event, api.Errno) {
	p, _, ok := m.find(number)
	switch {
	case !ok:
		return nil, api.ErrNone
	case p.o.Member != member:
		return nil, api.ErrOwner
	}
	m.drop(number)
	return []board.Event{told(board.Cancelled, number, p.left)}, api.OK
}

// amend amends an order to a price and a quantity that are in their ranges.
func (m *model) amend(number, member int, price, qty int64) ([]board.Event, api.Errno) {
	p, waits, ok := m.find(number)
	switch {
	case !ok:
		return nil, api.ErrNone
	case p.o.Member != member:
		return nil, api.ErrOwner
	case waits:
		return nil, api.ErrState
	case price == p.o.Price && qty <= p.left:
		hidden := p.left - p.shown
		away := p.left - qty
		p.left, p.shown = qty, p.shown-max(0, away-hidden)
		m.resting[slices.IndexFunc(m.resting, func(q paper) bool { return q.number == number })] = p
		return nil, api.OK
	}
	m.drop(number)
	o := limit(member, p.o.Side, price, qty)
	o.Peak = min(p.o.Peak, qty)
	l := m.comeIn(paper{number: number, o: o, left: qty})
	return append(l, m.triggers()...), api.OK
}

func (m *model) state() state {
	s := state{last: m.last, status: map[int]board.Status{}}
	for side := buy; side <= sell; side++ {
		price := int64(0)
		d := &s.depths[side-1]
		for _, p := range m.side(side) {
			if p.o.Price != price {
				price = p.o.Price
				*d = append(*d, board.Level{Price: price})
				s.queues = append(s.queues, nil)
			}
			(*d)[len(*d)-1].Shown += p.shown
			(*d)[len(*d)-1].Orders++
			q := &s.queues[len(s.queues)-1]
			*q = append(*q, p.number)
			s.status[p.number] = board.Status{Order: p.o, Left: p.left, Shown: p.shown}
			s.orders = append(s.orders, p.number)
		}
	}
	for _, p := range m.waiting {
		s.status[p.number] = board.Status{Order: p.o, Left: p.left, Waits: true}
		s.orders, s.stops = append(s.orders, p.number), append(s.stops, p.number)
	}
	slices.Sort(s.orders)
	slices.Sort(s.stops)
	return s
}

// cost is what a market order of a member without orders trades of the model.
func (m *model) cost(side int, qty int64) (filled, money int64) {
	for _, x := range m.fork().comeIn(paper{o: market(api.MaxMember, side, qty), left: qty}) {
		if x.What == board.Traded {
			filled, money = filled+x.Qty, money+x.Qty*x.Price
		}
	}
	return filled, money
}

// step is a call that changes a board: Enter, or Cancel or Amend of an order.
type step struct {
	enter          bool
	o              board.Order
	cancel         bool
	number, member int
	price, qty     int64
}

type result struct {
	number int
	events []board.Event
	e      api.Errno
}

func (s step) of(b *board.Board) (r result) {
	switch {
	case s.enter:
		r.number, r.events, r.e = b.Enter(s.o)
	case s.cancel:
		r.events, r.e = b.Cancel(s.number, s.member)
	default:
		r.events, r.e = b.Amend(s.number, s.member, s.price, s.qty)
	}
	return r
}

func (s step) ofModel(m *model) (r result) {
	switch {
	case s.enter:
		r.number, r.events, r.e = m.enter(s.o)
	case s.cancel:
		r.events, r.e = m.cancel(s.number, s.member)
	default:
		r.events, r.e = m.amend(s.number, s.member, s.price, s.qty)
	}
	return r
}

// randomOrder is a valid order near prices around ten.
func randomOrder(r *rand.Rand) board.Order {
	o := limit(1+r.Intn(4), 1+r.Intn(2), int64(6+r.Intn(9)), int64(1+r.Intn(9)))
	o.Force = []int{board.Rest, board.Rest, board.Rest, board.Rest, board.Now, board.All, board.Post, board.Post}[r.Intn(8)]
	if (o.Force == board.Now || o.Force == board.All) && r.Intn(2) == 0 {
		o.Kind, o.Price = board.Market, 0
	}
	if (o.Force == board.Rest || o.Force == board.Post) && r.Intn(2) == 0 {
		o.Peak = 1 + r.Int63n(o.Qty)
	}
	if r.Intn(4) == 0 {
		o.Stop = int64(6 + r.Intn(9))
	}
	return o
}

func randomStep(r *rand.Rand, m *model) step {
	k := r.Intn(20)
	if k < 13 {
		return step{enter: true, o: randomOrder(r)}
	}
	s := step{cancel: k < 15, number: 1 + r.Intn(m.numbers+1), member: 1 + r.Intn(4), price: int64(6 + r.Intn(9)), qty: int64(1 + r.Intn(9))}
	if l := append(slices.Clone(m.resting), m.waiting...); len(l) > 0 && r.Intn(6) > 0 {
		p := l[r.Intn(len(l))]
		s.number, s.member = p.number, p.o.Member
		if r.Intn(2) == 0 {
			s.price = max(1, p.o.Price)
		}
	}
	if r.Intn(20) == 0 {
		s.member = 1 + r.Intn(4)
	}
	return s
}

// P2.6: with resting orders on both sides the best prices do not meet.
func wantNotCrossed(t *testing.T, b *board.Board) {
	t.Helper()
	bid, _, some := b.Best(buy)
	ask, _, any := b.Best(sell)
	if some && any && bid >= ask {
		t.Errorf("crossed: %d, %d", bid, ask)
	}
}

// P2.9: Cost is what such an order then trades.
func wantTrueCost(t *testing.T, r *rand.Rand, b *board.Board, m *model) {
	t.Helper()
	side, qty := 1+r.Intn(2), int64(1+r.Intn(30))
	filled, money := m.cost(side, qty)
	wantCost(t, b, side, qty, filled, money)
	number, l, e := b.Fork().Enter(market(api.MaxMember, side, qty))
	for _, x := range l {
		if x.What == board.Traded && x.Order == number {
			filled, money = filled-x.Qty, money-x.Qty*x.Price
		}
	}
	if filled != 0 || money != 0 || e != api.OK {
		t.Errorf("a market order of side %d trades %d, %d less than Cost, error %d", side, filled, money, e)
	}
}

// P2.1 to P2.7, P2.9: random calls do to a board what they do to the model, also if it is forked in between, or the calls are made again.
func TestModel(t *testing.T) {
	for seed := range int64(150) {
		r := rand.New(rand.NewSource(seed))
		b, m := board.New(), &model{}
		var steps []step
		for range 200 {
			s := randomStep(r, m)
			steps = append(steps, s)
			before, was := b, m.state()
			forked := r.Intn(8) == 0
			if forked {
				b = b.Fork()
			}
			got, want := s.of(b), s.ofModel(m)
			if got.number != want.number || got.e != want.e || !slices.Equal(got.events, want.events) {
				t.Fatalf("seed %d, %+v: %+v, want %+v", seed, s, got, want)
			}
			wantState(t, "behind a call", b, m.state())
			if forked {
				wantState(t, "the board of which a fork was changed", before, was)
			}
			wantNotCrossed(t, b)
			wantTrueCost(t, r, b, m)
			if t.Failed() {
				t.Fatalf("seed %d, %+v", seed, s)
			}
		}
		again := board.New()
		for _, s := range steps {
			s.of(again)
		}
		wantState(t, "the same calls of a new board", again, m.state())
		n, _, _ := again.Enter(limit(1, buy, 1, 1))
		if n != m.numbers+1 {
			t.Errorf("seed %d: the next number is %d, want %d", seed, n, m.numbers+1)
		}
	}
}

// frontFor is the front that an order of a member meets, behind those of its own, which it removes.
func frontFor(b *board.Board, member, side int) (number int, price int64) {
	for {
		best, _, _ := b.Best(3 - side)
		front := b.Queue(3-side, best)[0]
		p, _ := b.Get(front)
		if p.Order.Member != member {
			return front, best
		}
		b.Cancel(front, member)
	}
}

// P2.7: in each trade the order that was met was the front, as a board tells of which the same is traded bit by bit.
func TestFrontIsMet(t *testing.T) {
	trades := 0
	for seed := range int64(60) {
		r := rand.New(rand.NewSource(seed))
		b := board.New()
		for range 150 {
			o := withStop(randomOrder(r), 0)
			was := b.Fork()
			_, l, _ := b.Enter(o)
			for _, x := range l {
				if x.What != board.Traded {
					continue
				}
				trades++
				if front, best := frontFor(was, o.Member, o.Side); x.Other != front || x.Price != best {
					t.Fatalf("seed %d: %v, the front was %d at %d", seed, x, front, best)
				}
				was.Enter(withForce(limit(api.MaxMember, o.Side, x.Price, x.Qty), board.Now))
			}
		}
	}
	if trades < 1000 {
		t.Errorf("only %d trades", trades)
	}
}

// P2.8: what was traded, cancelled, removed, refused or killed of each order, and what is left of it, are its quantity.
func TestNothingIsLost(t *testing.T) {
	for seed := range int64(60) {
		r := rand.New(rand.NewSource(seed))
		b, m := board.New(), &model{}
		entered, gone := map[int]int64{}, map[int]int64{}
		for range 300 {
			s := randomStep(r, m)
			if !s.enter && !s.cancel {
				continue
			}
			s.ofModel(m)
			got := s.of(b)
			if s.enter && got.e == api.OK {
				entered[got.number] = s.o.Qty
			}
			for _, x := range got.events {
				switch x.What {
				case board.Traded:
					gone[x.Order] += x.Qty
					gone[x.Other] += x.Qty
				case board.Cancelled, board.Removed, board.Refused, board.Killed:
					gone[x.Order] += x.Qty
				}
			}
		}
		for number, qty := range entered {
			p, _ := b.Get(number)
			if p.Left+gone[number] != qty {
				t.Errorf("seed %d: order %d of %d: %d left, %d gone", seed, number, qty, p.Left, gone[number])
			}
		}
	}
}
