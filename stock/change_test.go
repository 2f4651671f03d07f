package stock_test

import (
	"testing"

	"oast/api"
	"oast/stock"
)

// scene is a register with versions 0 to 7. At the last one, member 1 owns 1..10 of lot 7, of which 8 is pledged to 9; member 2 owns 11..14 of lot 7 and 15..16 of lot 8, of which 16 is pledged to 9, too; 17..18 are gone; 19.. are outside.
func scene(t *testing.T) (s *stock.Stock, version int) {
	t.Helper()
	s = stock.New()
	wantOK(t,
		s.Enter(span(1, 14), 7, 1),
		s.Enter(span(15, 16), 8, 2),
		s.Enter(span(17, 18), 9, 3),
		s.Move(span(11, 14), 1, 2),
		s.Pledge(span(8, 8), 1, 9),
		s.Pledge(span(16, 16), 2, 9),
		s.Leave(span(17, 18), 3))
	wantVersion(t, s, 7)
	return s, 7
}

// P1.1: entering.
func TestEnter(t *testing.T) {
	s := stock.New()
	wantOK(t, s.Enter(span(3, 5), 7, 1))
	wantVersion(t, s, 1)
	wantPocket(t, s, 2, 1, stock.Pocket{})
	for n := 3; n <= 5; n++ {
		wantPocket(t, s, n, 1, stock.Pocket{State: stock.In, Lot: 7, Owner: 1})
	}
	wantPocket(t, s, 6, 1, stock.Pocket{})
}

// P1.1: the ranges of the arguments, their ends included.
func TestEnterRanges(t *testing.T) {
	s := stock.New()
	for _, x := range badSpans {
		wantRefused(t, s, "Enter of a bad span", s.Enter(x, 1, 1), api.ErrArg, 0)
	}
	for _, x := range badLots {
		wantRefused(t, s, "Enter of a bad lot", s.Enter(span(1, 1), x, 1), api.ErrArg, 0)
	}
	for _, x := range badMembers {
		wantRefused(t, s, "Enter of a bad owner", s.Enter(span(1, 1), 1, x), api.ErrArg, 0)
	}
	wantOK(t, s.Enter(span(1, 1), 1, 1), s.Enter(span(api.MaxPocket, api.MaxPocket), api.MaxLot, api.MaxMember))
	wantPocket(t, s, 1, 2, stock.Pocket{State: stock.In, Lot: 1, Owner: 1})
	wantPocket(t, s, api.MaxPocket, 2, stock.Pocket{State: stock.In, Lot: api.MaxLot, Owner: api.MaxMember})
	s = stock.New()
	wantOK(t, s.Enter(span(1, api.MaxPocket), 1, 1))
	wantCount(t, s, 1, 1, api.MaxPocket)
}

// P1.1: pockets enter once.
func TestEnterTwice(t *testing.T) {
	s, v := scene(t)
	for _, x := range []api.Span{span(1, 1), span(8, 8), span(14, 15), span(16, 19), span(17, 17), span(18, 30), span(1, api.MaxPocket)} {
		wantRefused(t, s, "Enter of pockets that are not outside", s.Enter(x, 7, 1), api.ErrState, v)
	}
	wantPocket(t, s, 19, v, stock.Pocket{})
	wantRefused(t, s, "Enter with two errors", s.Enter(span(1, 1), 0, 1), api.ErrArg, v)
	wantRefused(t, s, "Enter with two errors", s.Enter(span(1, 1), 1, 0), api.ErrArg, v)
	wantOK(t, s.Enter(span(30, 30), 1, 1))
	wantRefused(t, s, "Enter of pockets of which the last one is in", s.Enter(span(19, 30), 1, 1), api.ErrState, v+1)
	wantRefused(t, s, "Enter of pockets of which one in the middle is in", s.Enter(span(19, 40), 1, 1), api.ErrState, v+1)
	wantOK(t, s.Enter(span(19, 29), 1, 1), s.Enter(span(31, 31), 1, 1))
}

// P1.1: leaving.
func TestLeave(t *testing.T) {
	s, v := scene(t)
	wantOK(t, s.Leave(span(2, 4), 1))
	wantPocket(t, s, 1, v+1, stock.Pocket{State: stock.In, Lot: 7, Owner: 1})
	for n := 2; n <= 4; n++ {
		wantPocket(t, s, n, v, stock.Pocket{State: stock.In, Lot: 7, Owner: 1})
		wantPocket(t, s, n, v+1, stock.Pocket{State: stock.Gone})
	}
	wantPocket(t, s, 5, v+1, stock.Pocket{State: stock.In, Lot: 7, Owner: 1})
	wantRefused(t, s, "Leave of pockets that are gone", s.Leave(span(2, 4), 1), api.ErrNone, v+1)
	wantOK(t, s.Leave(span(13, 15), 2))
	wantPocket(t, s, 15, v+2, stock.Pocket{State: stock.Gone})
}

// giving is a call that takes pockets of an owner.
type giving struct {
	name string
	call func(s *stock.Stock, x api.Span, owner int) api.Errno
}

// givings are the calls of which the pockets have to be the owner's and not pledged.
func givings() []giving {
	return []giving{
		{"Leave", func(s *stock.Stock, x api.Span, owner int) api.Errno { return s.Leave(x, owner) }},
		{"Move", func(s *stock.Stock, x api.Span, owner int) api.Errno { return s.Move(x, owner, 500) }},
		{"Pledge", func(s *stock.Stock, x api.Span, owner int) api.Errno { return s.Pledge(x, owner, 9) }},
	}
}

// P1.1, P1.2, P1.3: the first pocket that is not right decides.
func TestPocketsThatCannotBeGiven(t *testing.T) {
	cases := []struct {
		x     api.Span
		owner int
		want  api.Errno
	}{
		{span(19, 19), 1, api.ErrNone},
		{span(17, 17), 3, api.ErrNone},
		{span(11, 11), 1, api.ErrOwner},
		{span(1, 1), 2, api.ErrOwner},
		{span(8, 8), 2, api.ErrOwner},
		{span(8, 8), 9, api.ErrOwner},
		{span(8, 8), 1, api.ErrPledge},
		{span(16, 16), 2, api.ErrPledge},
		{span(7, 8), 1, api.ErrPledge},
		{span(8, 9), 1, api.ErrPledge},
		{span(7, 11), 1, api.ErrPledge},
		{span(9, 11), 1, api.ErrOwner},
		{span(9, 19), 1, api.ErrOwner},
		{span(15, 17), 2, api.ErrPledge},
		{span(15, 30), 2, api.ErrPledge},
		{span(10, 16), 2, api.ErrOwner},
		{span(16, 19), 1, api.ErrOwner},
		{span(18, 19), 1, api.ErrNone},
		{span(1, api.MaxPocket), 1, api.ErrPledge},
	}
	for _, g := range givings() {
		s, v := scene(t)
		for _, c := range cases {
			wantRefused(t, s, g.name, g.call(s, c.x, c.owner), c.want, v)
		}
		wantHolds(t, s, 1, v, stock.Hold{Span: span(1, 7), Lot: 7, Owner: 1}, stock.Hold{Span: span(8, 8), Lot: 7, Owner: 1, Holder: 9}, stock.Hold{Span: span(9, 10), Lot: 7, Owner: 1})
		wantOK(t, g.call(s, span(11, 15), 2))
		wantVersion(t, s, v+1)
	}
}

// P1.1, P1.2, P1.3: a gap after pockets that are right, and before pockets that are not.
func TestFirstPocketDecides(t *testing.T) {
	for _, g := range givings() {
		s := stock.New()
		wantOK(t, s.Enter(span(2, 3), 1, 1), s.Enter(span(5, 5), 1, 2), s.Pledge(span(3, 3), 1, 1))
		wantRefused(t, s, g.name, g.call(s, span(1, 5), 1), api.ErrNone, 3)
		wantRefused(t, s, g.name, g.call(s, span(2, 5), 1), api.ErrPledge, 3)
		wantRefused(t, s, g.name, g.call(s, span(4, 5), 1), api.ErrNone, 3)
		wantRefused(t, s, g.name, g.call(s, span(5, 6), 1), api.ErrOwner, 3)
		wantRefused(t, s, g.name, g.call(s, span(2, 2), 2), api.ErrOwner, 3)
		wantOK(t, g.call(s, span(2, 2), 1))
	}
}

// P1.1, P1.2, P1.3: the ranges come before the pockets.
func TestRangesOfGivings(t *testing.T) {
	for _, g := range givings() {
		s, v := scene(t)
		for _, x := range badSpans {
			wantRefused(t, s, g.name+" of a bad span", g.call(s, x, 1), api.ErrArg, v)
		}
		for _, x := range badMembers {
			wantRefused(t, s, g.name+" of a bad owner", g.call(s, span(1, 1), x), api.ErrArg, v)
			wantRefused(t, s, g.name+" of a bad owner", g.call(s, span(19, 19), x), api.ErrArg, v)
		}
	}
}

// P1.2: moving.
func TestMove(t *testing.T) {
	s, v := scene(t)
	wantOK(t, s.Move(span(13, 15), 2, api.MaxMember))
	wantPocket(t, s, 12, v+1, stock.Pocket{State: stock.In, Lot: 7, Owner: 2})
	wantPocket(t, s, 13, v+1, stock.Pocket{State: stock.In, Lot: 7, Owner: api.MaxMember})
	wantPocket(t, s, 14, v+1, stock.Pocket{State: stock.In, Lot: 7, Owner: api.MaxMember})
	wantPocket(t, s, 15, v+1, stock.Pocket{State: stock.In, Lot: 8, Owner: api.MaxMember})
	wantPocket(t, s, 16, v+1, stock.Pocket{State: stock.In, Lot: 8, Owner: 2, Holder: 9})
	wantPocket(t, s, 13, v, stock.Pocket{State: stock.In, Lot: 7, Owner: 2})
}

// P1.2: the other member.
func TestMoveRanges(t *testing.T) {
	s, v := scene(t)
	for _, x := range badMembers {
		wantRefused(t, s, "Move to a bad member", s.Move(span(1, 1), 1, x), api.ErrArg, v)
		wantRefused(t, s, "Move to a bad member", s.Move(span(19, 19), 1, x), api.ErrArg, v)
	}
	wantRefused(t, s, "Move to the same member", s.Move(span(1, 1), 1, 1), api.ErrArg, v)
	wantRefused(t, s, "Move to the same member", s.Move(span(19, 19), 1, 1), api.ErrArg, v)
	wantRefused(t, s, "Move to the same member", s.Move(span(8, 8), 2, 2), api.ErrArg, v)
}

// P1.3: pledging.
func TestPledge(t *testing.T) {
	s, v := scene(t)
	wantOK(t, s.Pledge(span(14, 15), 2, api.MaxMember))
	wantPocket(t, s, 13, v+1, stock.Pocket{State: stock.In, Lot: 7, Owner: 2})
	wantPocket(t, s, 14, v+1, stock.Pocket{State: stock.In, Lot: 7, Owner: 2, Holder: api.MaxMember})
	wantPocket(t, s, 15, v+1, stock.Pocket{State: stock.In, Lot: 8, Owner: 2, Holder: api.MaxMember})
	wantPocket(t, s, 14, v, stock.Pocket{State: stock.In, Lot: 7, Owner: 2})
	wantRefused(t, s, "Pledge again", s.Pledge(span(14, 14), 2, api.MaxMember), api.ErrPledge, v+1)
	for _, x := range badMembers {
		wantRefused(t, s, "Pledge to a bad member", s.Pledge(span(1, 1), 1, x), api.ErrArg, v+1)
		wantRefused(t, s, "Pledge to a bad member", s.Pledge(span(19, 19), 1, x), api.ErrArg, v+1)
	}
}

// P1.3: the holder may be the owner.
func TestPledgeToOwner(t *testing.T) {
	s, v := scene(t)
	wantOK(t, s.Pledge(span(1, 2), 1, 1))
	wantPocket(t, s, 1, v+1, stock.Pocket{State: stock.In, Lot: 7, Owner: 1, Holder: 1})
	wantRefused(t, s, "Move of what the owner holds", s.Move(span(1, 1), 1, 2), api.ErrPledge, v+1)
	wantRefused(t, s, "Leave of what the owner holds", s.Leave(span(1, 1), 1), api.ErrPledge, v+1)
	wantOK(t, s.Release(span(1, 1), 1), s.Seize(span(2, 2), 1))
	wantPocket(t, s, 1, v+3, stock.Pocket{State: stock.In, Lot: 7, Owner: 1})
	wantPocket(t, s, 2, v+3, stock.Pocket{State: stock.In, Lot: 7, Owner: 1})
}

// P1.3: what Release and Seize refuse.
func TestEndsOfPledgesRefused(t *testing.T) {
	ways := []giving{
		{"Release", func(s *stock.Stock, x api.Span, holder int) api.Errno { return s.Release(x, holder) }},
		{"Seize", func(s *stock.Stock, x api.Span, holder int) api.Errno { return s.Seize(x, holder) }},
	}
	cases := []struct {
		x      api.Span
		holder int
		want   api.Errno
	}{
		{span(19, 19), 9, api.ErrNone},
		{span(17, 17), 9, api.ErrNone},
		{span(17, 17), 3, api.ErrNone},
		{span(1, 1), 9, api.ErrPledge},
		{span(1, 1), 1, api.ErrPledge},
		{span(8, 8), 1, api.ErrPledge},
		{span(8, 8), 8, api.ErrPledge},
		{span(8, 9), 9, api.ErrPledge},
		{span(7, 8), 9, api.ErrPledge},
		{span(8, 19), 9, api.ErrPledge},
		{span(16, 17), 9, api.ErrNone},
		{span(15, 17), 9, api.ErrPledge},
		{span(18, 20), 9, api.ErrNone},
	}
	for _, g := range ways {
		s, v := scene(t)
		for _, c := range cases {
			wantRefused(t, s, g.name, g.call(s, c.x, c.holder), c.want, v)
		}
		for _, x := range badSpans {
			wantRefused(t, s, g.name+" of a bad span", g.call(s, x, 9), api.ErrArg, v)
		}
		for _, x := range badMembers {
			wantRefused(t, s, g.name+" of a bad holder", g.call(s, span(8, 8), x), api.ErrArg, v)
			wantRefused(t, s, g.name+" of a bad holder", g.call(s, span(1, 1), x), api.ErrArg, v)
			wantRefused(t, s, g.name+" of a bad holder", g.call(s, span(19, 19), x), api.ErrArg, v)
		}
		wantPledged(t, s, 9, v, stock.Hold{Span: span(8, 8), Lot: 7, Owner: 1, Holder: 9}, stock.Hold{Span: span(16, 16), Lot: 8, Owner: 2, Holder: 9})
		wantOK(t, g.call(s, span(8, 8), 9))
		wantRefused(t, s, g.name+" again", g.call(s, span(8, 8), 9), api.ErrPledge, v+1)
	}
}

// P1.3: releasing, of several owners and lots at once, too.
func TestRelease(t *testing.T) {
	s, v := scene(t)
	wantOK(t, s.Pledge(span(9, 10), 1, 9), s.Pledge(span(11, 15), 2, 9), s.Release(span(8, 16), 9))
	for n := 8; n <= 16; n++ {
		was, _ := s.Pocket(n, v+2)
		is := was
		is.Holder = 0
		if was.Holder != 9 {
			t.Errorf("pocket %d is not pledged: %v", n, was)
		}
		wantPocket(t, s, n, v+3, is)
	}
	wantPledged(t, s, 9, v+3)
	wantOK(t, s.Leave(span(8, 8), 1), s.Move(span(16, 16), 2, 1))
}

// P1.3: seizing, of several owners and lots at once, too.
func TestSeize(t *testing.T) {
	s, v := scene(t)
	wantOK(t, s.Pledge(span(9, 10), 1, 9), s.Pledge(span(11, 15), 2, 9), s.Seize(span(9, 15), 9))
	wantHolds(t, s, 9, v+3, stock.Hold{Span: span(9, 14), Lot: 7, Owner: 9}, stock.Hold{Span: span(15, 15), Lot: 8, Owner: 9})
	wantPledged(t, s, 9, v+3, stock.Hold{Span: span(8, 8), Lot: 7, Owner: 1, Holder: 9}, stock.Hold{Span: span(16, 16), Lot: 8, Owner: 2, Holder: 9})
	wantCount(t, s, 1, v+3, 8)
	wantOK(t, s.Leave(span(9, 15), 9))
	wantRefused(t, s, "Enter of pockets that are gone", s.Enter(span(9, 9), 7, 1), api.ErrState, v+4)
}
