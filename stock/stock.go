// Package stock is layer 1, the register of a hop warehouse: who owns which pockets, which of them are pledged, and how that was at any earlier time. It also draws samples and judges their alpha acid. See shared/doc/01-stock.md.
package stock

import (
	"slices"

	"oast/api"
)

// Hold is a span of pockets of one lot, owner and holder.
type Hold struct {
	Span               api.Span
	Lot, Owner, Holder int
}

// Pocket is the state of a pocket.
type Pocket struct {
	State, Lot, Owner, Holder int
}

// The states of a pocket.
const (
	Outside = 0
	In      = 1
	Gone    = 2
)

// Stock is the register of a warehouse.
type Stock struct {
	// Version v is trees[v-1]. Version 0 is not kept: it is the same for all registers.
	trees []*node
}

// New returns a register whose pockets are all outside.
func New() *Stock {
	return new(Stock)
}

// Enter brings pockets in.
func (s *Stock) Enter(span api.Span, lot, owner int) api.Errno {
	entered := Pocket{State: In, Lot: lot, Owner: owner}
	return s.change(span, isLot(lot) && areMembers(owner), mustBeOutside, func(Pocket) Pocket { return entered })
}

// Move gives pockets to another owner.
func (s *Stock) Move(span api.Span, from, to int) api.Errno {
	return s.change(span, areMembers(from, to) && from != to, mustBeFree(from), func(p Pocket) Pocket {
		p.Owner = to
		return p
	})
}

// Pledge pledges pockets to a holder.
func (s *Stock) Pledge(span api.Span, owner, holder int) api.Errno {
	return s.change(span, areMembers(owner, holder), mustBeFree(owner), func(p Pocket) Pocket {
		p.Holder = holder
		return p
	})
}

// Release ends the pledge of pockets.
func (s *Stock) Release(span api.Span, holder int) api.Errno {
	return s.change(span, areMembers(holder), mustBePledged(holder), func(p Pocket) Pocket {
		p.Holder = 0
		return p
	})
}

// Seize gives pledged pockets to their holder.
func (s *Stock) Seize(span api.Span, holder int) api.Errno {
	return s.change(span, areMembers(holder), mustBePledged(holder), func(p Pocket) Pocket {
		p.Owner, p.Holder = holder, 0
		return p
	})
}

// Leave takes pockets out for ever.
func (s *Stock) Leave(span api.Span, owner int) api.Errno {
	return s.change(span, areMembers(owner), mustBeFree(owner), func(Pocket) Pocket { return Pocket{State: Gone} })
}

// change makes the next version, in which each pocket of span is as after makes it of what it was, unless an argument is out of its range (inRange tells of all but span) or refuse has an error for a pocket.
func (s *Stock) change(span api.Span, inRange bool, refuse func(Pocket) api.Errno, after func(Pocket) Pocket) api.Errno {
	tree, e := s.tree(s.Version(), inRange && isValid(span))
	if e != api.OK {
		return e
	}
	at := endsOf(span)
	for _, p := range tree.runs(at) {
		if e := refuse(p); e != api.OK {
			return e
		}
	}
	s.trees = append(s.trees, tree.with(at, after))
	return api.OK
}

func mustBeOutside(p Pocket) api.Errno {
	if p.State != Outside {
		return api.ErrState
	}
	return api.OK
}

// mustBeFree refuses pockets that owner cannot dispose of.
func mustBeFree(owner int) func(Pocket) api.Errno {
	return func(p Pocket) api.Errno {
		switch {
		case p.State != In:
			return api.ErrNone
		case p.Owner != owner:
			return api.ErrOwner
		case p.Holder != 0:
			return api.ErrPledge
		}
		return api.OK
	}
}

func mustBePledged(holder int) func(Pocket) api.Errno {
	return func(p Pocket) api.Errno {
		switch {
		case p.State != In:
			return api.ErrNone
		case p.Holder != holder:
			return api.ErrPledge
		}
		return api.OK
	}
}

// Version returns the number of the last version.
func (s *Stock) Version() int {
	if s == nil {
		return 0
	}
	return len(s.trees)
}

// tree returns the tree of a version for a call whose other arguments are in their ranges or not.
func (s *Stock) tree(version int, inRange bool) (*node, api.Errno) {
	switch {
	case s == nil:
		return nil, api.ErrNil
	case version < 0 || version > len(s.trees):
		return nil, api.ErrNone
	case !inRange:
		return nil, api.ErrArg
	case version == 0:
		return &node{ends: ends{1, api.MaxPocket}}, api.OK
	}
	return s.trees[version-1], api.OK
}

// Pocket returns how a pocket is at a version.
func (s *Stock) Pocket(n, version int) (Pocket, api.Errno) {
	tree, e := s.tree(version, isPocket(n))
	if e != api.OK {
		return Pocket{}, e
	}
	return tree.at(n), api.OK
}

// Holds returns the holds of an owner at a version.
func (s *Stock) Holds(owner, version int) ([]Hold, api.Errno) {
	return s.holds(owner, version, func(p Pocket) int { return p.Owner })
}

// Pledged returns the holds that are pledged to a holder at a version.
func (s *Stock) Pledged(holder, version int) ([]Hold, api.Errno) {
	return s.holds(holder, version, func(p Pocket) int { return p.Holder })
}

// holds returns the holds of which who is member. Pockets that are not in have the owner and holder 0, who is no member.
func (s *Stock) holds(member, version int, who func(Pocket) int) ([]Hold, api.Errno) {
	tree, e := s.tree(version, areMembers(member))
	if e != api.OK {
		return nil, e
	}
	var l []Hold
	for at, p := range tree.runs(tree.ends) {
		if who(p) == member {
			l = append(l, Hold{at.span(), p.Lot, p.Owner, p.Holder})
		}
	}
	return l, api.OK
}

// Count returns how many pockets a member owns at a version.
func (s *Stock) Count(owner, version int) (int, api.Errno) {
	l, e := s.Holds(owner, version)
	n := 0
	for _, h := range l {
		n += h.Span.Count
	}
	return n, e
}

// Find returns the first n pockets of a lot that a member owns and that are not pledged.
func (s *Stock) Find(owner, lot, n int) ([]api.Span, api.Errno) {
	tree, e := s.tree(s.Version(), areMembers(owner) && isLot(lot) && isPocket(n))
	if e != api.OK {
		return nil, e
	}
	wanted := Pocket{State: In, Lot: lot, Owner: owner}
	var l []api.Span
	for at, p := range tree.runs(tree.ends) {
		if p != wanted {
			continue
		}
		taken := min(n, at.count())
		l = append(l, api.Span{From: at.first, Count: taken})
		n -= taken
		if n == 0 {
			return l, api.OK
		}
	}
	return nil, api.ErrNone
}

// Changed returns the pockets that are not the same in two versions.
func (s *Stock) Changed(a, b int) ([]api.Span, api.Errno) {
	before, e := s.tree(a, true)
	if e != api.OK {
		return nil, e
	}
	after, e := s.tree(b, true)
	if e != api.OK {
		return nil, e
	}
	var l []api.Span
	for at := range before.differences(after) {
		last := len(l) - 1
		if last >= 0 && l[last].From+l[last].Count == at.first {
			l[last].Count += at.count()
		} else {
			l = append(l, at.span())
		}
	}
	return l, api.OK
}

// Fork returns a register with the same versions that goes its own way. The trees can be shared: they never change.
func (s *Stock) Fork() *Stock {
	if s == nil {
		return nil
	}
	return &Stock{slices.Clone(s.trees)}
}

func isPocket(n int) bool {
	return n >= 1 && n <= api.MaxPocket
}

func isLot(n int) bool {
	return n >= 1 && n <= api.MaxLot
}

func areMembers(l ...int) bool {
	for _, n := range l {
		if n < 1 || n > api.MaxMember {
			return false
		}
	}
	return true
}

// isValid subtracts where the definition adds, as a sum of two arguments may leave the range of int.
func isValid(span api.Span) bool {
	return isPocket(span.From) && span.Count >= 1 && span.Count <= api.MaxPocket-span.From+1
}
