package net

import (
	"math/bits"

	"oast/api"
)

// set is a set of parties: a bit for each.
type set uint64

// all is the set of all parties.
const all set = 1<<api.MaxParties - 1

func (s set) has(party int) bool { return s&(1<<party) != 0 }

// fixed lowers values to the greatest ones each of which is what next says of it. Next never says more when the others are
// less, and nothing more than the values at first: so each value is lowered only as it must be. Put changes one of them, and
// tells of which ones next may say something else then.
func fixed[T comparable](values []T, next func(at int) T, put func(at int, value T) set) {
	todo := set(1)<<len(values) - 1
	for todo != 0 {
		now := todo
		todo = 0
		for ; now != 0; now &= now - 1 {
			at := bits.TrailingZeros64(uint64(now))
			if value := next(at); value != values[at] {
				values[at] = value
				todo |= put(at, value)
			}
		}
	}
}

// debt is what a party owes another one, and what it pays of that.
type debt struct {
	to         int
	owed, paid int64
}

// ledger is a crisis in which each party pays some of what it owes, at first all.
type ledger struct {
	parties    int
	debts      [][]debt
	cash, owed row
	pays, gets row
}

// openLedger returns the ledger of a crisis that is valid.
func openLedger(c Crisis) *ledger {
	l := &ledger{parties: len(c.Cash), debts: make([][]debt, len(c.Cash))}
	copy(l.cash[:], c.Cash)
	l.owed, l.gets = sums(c.Debts)
	l.pays = l.owed
	for i, owed := range c.Debts {
		for j, x := range owed {
			if x > 0 {
				l.debts[i] = append(l.debts[i], debt{to: j, owed: x, paid: x})
			}
		}
	}
	return l
}

// can is how much of what it owes a party can pay.
func (l *ledger) can(party int) int64 { return min(l.owed[party], l.cash[party]+l.gets[party]) }

// lower lowers the payments of some parties until each pays what it can; the others pay as before.
func (l *ledger) lower(some set) {
	next := func(party int) int64 {
		if some.has(party) {
			return l.can(party)
		}
		return l.pays[party]
	}
	fixed(l.pays[:l.parties], next, l.spread)
}

// spread divides what a party pays now among its creditors, and returns those who get less than before.
func (l *ledger) spread(party int, pays int64) set {
	less := set(0)
	for i := range l.debts[party] {
		x := &l.debts[party][i]
		if paid := pays * x.owed / l.owed[party]; paid != x.paid {
			l.gets[x.to] -= x.paid - paid
			x.paid = paid
			less |= 1 << x.to
		}
	}
	return less
}

// short returns the parties that cannot pay what they pay now.
func (l *ledger) short() []int {
	var parties []int
	for party := range l.parties {
		if l.can(party) < l.pays[party] {
			parties = append(parties, party)
		}
	}
	return parties
}
