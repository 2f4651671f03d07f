package stock_test

import (
	"math/rand"
	"slices"
	"testing"

	"oast/api"
	"oast/stock"
)

// model is a register of a few pockets that keeps every version whole, as the chapter defines it.
type model struct {
	base     int // the number before that of the first pocket
	versions [][]stock.Pocket
}

func newModel(base, pockets int) *model {
	return &model{base, [][]stock.Pocket{make([]stock.Pocket, pockets)}}
}

func (m *model) fork() *model {
	return &model{m.base, slices.Clone(m.versions)}
}

// change makes a version of the last one, or returns the error of the first pocket that has one.
func (m *model) change(x api.Span, one func(*stock.Pocket) api.Errno) api.Errno {
	next := slices.Clone(m.versions[len(m.versions)-1])
	for n := x.From; n < x.From+x.Count; n++ {
		if e := one(&next[n-m.base-1]); e != api.OK {
			return e
		}
	}
	m.versions = append(m.versions, next)
	return api.OK
}

// give changes pockets that have to be the owner's and not pledged.
func (m *model) give(x api.Span, owner int, one func(*stock.Pocket)) api.Errno {
	return m.change(x, func(p *stock.Pocket) api.Errno {
		if p.State != stock.In {
			return api.ErrNone
		}
		if p.Owner != owner {
			return api.ErrOwner
		}
		if p.Holder != 0 {
			return api.ErrPledge
		}
		one(p)
		return api.OK
	})
}

// free changes pockets that have to be pledged to holder.
func (m *model) free(x api.Span, holder int, one func(*stock.Pocket)) api.Errno {
	return m.change(x, func(p *stock.Pocket) api.Errno {
		if p.State != stock.In {
			return api.ErrNone
		}
		if p.Holder != holder {
			return api.ErrPledge
		}
		one(p)
		return api.OK
	})
}

func (m *model) holds(version int, wanted func(stock.Pocket) bool) []stock.Hold {
	var l []stock.Hold
	was := stock.Pocket{}
	for i, p := range m.versions[version] {
		if wanted(p) && i > 0 && p == was {
			l[len(l)-1].Span.Count++
		} else if wanted(p) {
			l = append(l, stock.Hold{Span: api.Span{From: m.base + i + 1, Count: 1}, Lot: p.Lot, Owner: p.Owner, Holder: p.Holder})
		}
		was = p
	}
	return l
}

// spans joins the pockets that are wanted.
func (m *model) spans(wanted func(i int) bool) []api.Span {
	var l []api.Span
	joined := false
	for i := range m.versions[0] {
		switch {
		case !wanted(i):
			joined = false
		case joined:
			l[len(l)-1].Count++
		default:
			l = append(l, api.Span{From: m.base + i + 1, Count: 1})
			joined = true
		}
	}
	return l
}

// find takes the first pockets that suit until there are n.
func (m *model) find(owner, lot, n int) ([]api.Span, bool) {
	last := m.versions[len(m.versions)-1]
	l := m.spans(func(i int) bool {
		suits := n > 0 && last[i] == stock.Pocket{State: stock.In, Lot: lot, Owner: owner}
		if suits {
			n--
		}
		return suits
	})
	return l, n == 0
}

const modelMembers = 3

// step makes the same random change of a register and of its model.
func step(t *testing.T, r *rand.Rand, s *stock.Stock, m *model) {
	t.Helper()
	pockets := len(m.versions[0])
	from := r.Intn(pockets)
	x := api.Span{From: m.base + from + 1, Count: 1 + r.Intn(min(4, pockets-from))}
	if r.Intn(12) == 0 {
		x.Count = 1 + r.Intn(pockets-from)
	}
	lot, a, b := 1+r.Intn(2), 1+r.Intn(modelMembers), 1+r.Intn(modelMembers)
	var got, want api.Errno
	switch k := r.Intn(20); {
	case k < 4:
		got = s.Enter(x, lot, a)
		want = m.change(x, func(p *stock.Pocket) api.Errno {
			if p.State != stock.Outside {
				return api.ErrState
			}
			*p = stock.Pocket{State: stock.In, Lot: lot, Owner: a}
			return api.OK
		})
	case k < 12:
		b = a%modelMembers + 1
		got = s.Move(x, a, b)
		want = m.give(x, a, func(p *stock.Pocket) { p.Owner = b })
	case k < 15:
		got = s.Pledge(x, a, b)
		want = m.give(x, a, func(p *stock.Pocket) { p.Holder = b })
	case k < 17:
		got = s.Release(x, a)
		want = m.free(x, a, func(p *stock.Pocket) { p.Holder = 0 })
	case k < 19:
		got = s.Seize(x, a)
		want = m.free(x, a, func(p *stock.Pocket) { p.Owner, p.Holder = a, 0 })
	case r.Intn(4) == 0:
		got = s.Leave(x, a)
		want = m.give(x, a, func(p *stock.Pocket) { *p = stock.Pocket{State: stock.Gone} })
	}
	wantError(t, "a random change", got, want)
	wantVersion(t, s, len(m.versions)-1)
}

// compare asks everything about a version, and about its differences from another one.
func compare(t *testing.T, r *rand.Rand, s *stock.Stock, m *model, version int) {
	t.Helper()
	for i, p := range m.versions[version] {
		wantPocket(t, s, m.base+i+1, version, p)
	}
	in := 0
	for a := 1; a <= modelMembers; a++ {
		owned := m.holds(version, func(p stock.Pocket) bool { return p.Owner == a })
		wantHolds(t, s, a, version, owned...)
		wantPledged(t, s, a, version, m.holds(version, func(p stock.Pocket) bool { return p.Holder == a })...)
		count := 0
		for _, h := range owned {
			count += h.Span.Count
		}
		wantCount(t, s, a, version, count)
		in += count
	}
	if in > len(m.versions[0]) {
		t.Errorf("version %d has %d pockets", version, in)
	}
	other := r.Intn(len(m.versions))
	wantChanged(t, s, version, other, m.spans(func(i int) bool { return m.versions[version][i] != m.versions[other][i] })...)
}

func compareFind(t *testing.T, s *stock.Stock, m *model) {
	t.Helper()
	for a := 1; a <= modelMembers; a++ {
		for lot := 1; lot <= 2; lot++ {
			for n := 1; n <= 8; n++ {
				if l, ok := m.find(a, lot, n); ok {
					wantFound(t, s, a, lot, n, l...)
				} else {
					wantNotFound(t, s, a, lot, n, api.ErrNone)
				}
			}
		}
	}
}

// P1.1 to P1.5, P1.9: random days of the register, at both ends and in the middle of the numbers, with forks.
func TestRandomDays(t *testing.T) {
	const pockets = 24
	for seed := range int64(60) {
		r := rand.New(rand.NewSource(seed))
		base := []int{0, 499988, 123456, api.MaxPocket - pockets}[seed%4]
		s, m := stock.New(), newModel(base, pockets)
		var oldStock *stock.Stock
		var oldModel *model
		for i := range 150 {
			if i == 60 {
				oldStock, oldModel = s, m
				s, m = s.Fork(), m.fork()
			}
			step(t, r, s, m)
			if oldStock != nil {
				step(t, r, oldStock, oldModel)
			}
			compare(t, r, s, m, s.Version())
			compareFind(t, s, m)
		}
		for version := range m.versions {
			compare(t, r, s, m, version)
		}
		for version := range oldModel.versions {
			compare(t, r, oldStock, oldModel, version)
		}
		if t.Failed() {
			t.Fatalf("seed %d", seed)
		}
	}
}

// P1.9: at every version the holds of all members have each pocket that is in once, with the owner that Pocket names.
func TestOneOwner(t *testing.T) {
	s, v := scene(t)
	for version := range v + 1 {
		owners := map[int]int{}
		for a := 1; a <= api.MaxMember; a++ {
			holds, e := s.Holds(a, version)
			wantOK(t, e)
			for _, h := range holds {
				for n := h.Span.From; n < h.Span.From+h.Span.Count; n++ {
					if owners[n] != 0 {
						t.Errorf("version %d: pocket %d is held twice", version, n)
					}
					owners[n] = a
				}
			}
		}
		for n := 1; n <= 30; n++ {
			p, e := s.Pocket(n, version)
			wantOK(t, e)
			if p.Owner != owners[n] || (p.State == stock.In) != (owners[n] != 0) {
				t.Errorf("version %d: pocket %d is %v, and held by %d", version, n, p, owners[n])
			}
		}
	}
}

// P1.9: a version is the same after a hundred changes as it was.
func TestVersionsNeverChange(t *testing.T) {
	s := stock.New()
	wantOK(t, s.Enter(span(1, 64), 1, 1))
	for i := 1; i <= 100; i++ {
		wantOK(t, s.Move(span(1+i%64, 64), 1, 2), s.Move(span(1+i%64, 64), 2, 1))
		wantHolds(t, s, 1, 1, stock.Hold{Span: span(1, 64), Lot: 1, Owner: 1})
		wantHolds(t, s, 2, 1)
		wantHolds(t, s, 2, 2, stock.Hold{Span: span(2, 64), Lot: 1, Owner: 2})
	}
	for i := 1; i <= 100; i++ {
		wantCount(t, s, 2, 2*i, 64-i%64)
		wantCount(t, s, 1, 2*i+1, 64)
	}
}

// P1.10: what all members own is what entered less what left; what is refused adds nothing.
func TestNothingIsLost(t *testing.T) {
	r := rand.New(rand.NewSource(5))
	s := stock.New()
	want := []int{0}
	there := 0
	for range 300 {
		x := api.Span{From: 1 + r.Intn(60), Count: 1 + r.Intn(5)}
		a, b := 1+r.Intn(4), 1+r.Intn(4)
		var e api.Errno
		more := 0
		switch r.Intn(6) {
		case 0:
			e, more = s.Enter(x, 1, a), x.Count
		case 1:
			e, more = s.Leave(x, a), -x.Count
		case 2:
			e = s.Pledge(x, a, b)
		case 3:
			e = s.Seize(x, b)
		case 4:
			e = s.Release(x, b)
		default:
			e = s.Move(x, a, b)
		}
		if e == api.OK {
			there += more
			want = append(want, there)
		}
	}
	wantVersion(t, s, len(want)-1)
	for version, n := range want {
		sum := 0
		for a := 1; a <= 4; a++ {
			count, e := s.Count(a, version)
			wantOK(t, e)
			sum += count
		}
		if sum != n {
			t.Errorf("version %d has %d pockets, want %d", version, sum, n)
		}
	}
}

// P1.10: there and back again leaves nothing changed, though the ways differ.
func TestThereAndBack(t *testing.T) {
	s := stock.New()
	wantOK(t, s.Enter(span(1, 9), 1, 1), s.Enter(span(10, 12), 2, 1))
	wantOK(t, s.Move(span(3, 11), 1, 2), s.Move(span(3, 5), 2, 3), s.Move(span(6, 11), 2, 1), s.Move(span(4, 5), 3, 1), s.Move(span(3, 3), 3, 1))
	wantChanged(t, s, 2, 7)
	wantChanged(t, s, 2, 6, span(3, 3))
	wantChanged(t, s, 2, 5, span(3, 5))
	wantChanged(t, s, 3, 7, span(3, 11))
	wantOK(t, s.Pledge(span(1, 12), 1, 2), s.Seize(span(1, 12), 2), s.Move(span(1, 12), 2, 1))
	wantChanged(t, s, 2, 10)
	wantChanged(t, s, 7, 9, span(1, 12))
	wantHolds(t, s, 1, 10, stock.Hold{Span: span(1, 9), Lot: 1, Owner: 1}, stock.Hold{Span: span(10, 12), Lot: 2, Owner: 1})
}

// P1: many changes of many pockets end soon.
func TestManyPockets(t *testing.T) {
	s := stock.New()
	wantOK(t, s.Enter(span(1, api.MaxPocket), 1, 1))
	const moves = 2000
	for i := range moves {
		wantOK(t, s.Move(span(1+i*500, 1+i*500), 1, 2))
	}
	wantCount(t, s, 2, moves+1, moves)
	wantCount(t, s, 1, moves+1, api.MaxPocket-moves)
	wantChanged(t, s, moves, moves+1, span(1+(moves-1)*500, 1+(moves-1)*500))
	for i := range moves {
		wantOK(t, s.Move(span(1+i*500, 1+i*500), 2, 1))
	}
	wantHolds(t, s, 1, 2*moves+1, stock.Hold{Span: span(1, api.MaxPocket), Lot: 1, Owner: 1})
	wantChanged(t, s, 1, 2*moves+1)
}
