package net

import (
	"slices"

	"oast/api"
)

// CheckCrisis tells whether the crisis is valid.
func CheckCrisis(c Crisis) api.Errno {
	if e := Check(c.Debts); e != api.OK {
		return e
	}
	if len(c.Cash) != len(c.Debts) {
		return api.ErrShape
	}
	for _, cash := range c.Cash {
		if cash < 0 || cash > api.MaxDebt {
			return api.ErrArg
		}
	}
	return api.OK
}

// cleared returns the ledger of a crisis with the greatest clearing payments.
func cleared(c Crisis) (*ledger, api.Errno) {
	if e := CheckCrisis(c); e != api.OK {
		return nil, e
	}
	l := openLedger(c)
	l.lower(all)
	return l, api.OK
}

// Clear returns the greatest clearing payments.
func Clear(c Crisis) ([]int64, api.Errno) {
	l, e := cleared(c)
	if e != api.OK {
		return nil, e
	}
	return slices.Clone(l.pays[:l.parties]), api.OK
}

// paid returns the ledger of a crisis with these payments.
func paid(c Crisis, pays []int64) (*ledger, api.Errno) {
	if e := CheckCrisis(c); e != api.OK {
		return nil, e
	}
	if len(pays) != len(c.Cash) {
		return nil, api.ErrShape
	}
	l := openLedger(c)
	for party, x := range pays {
		if x < 0 || x > l.owed[party] {
			return nil, api.ErrArg
		}
		l.pays[party] = x
		l.spread(party, x)
	}
	return l, api.OK
}

// Received returns what each party receives if each pays so much.
func Received(c Crisis, pays []int64) ([]int64, api.Errno) {
	l, e := paid(c, pays)
	if e != api.OK {
		return nil, e
	}
	return slices.Clone(l.gets[:l.parties]), api.OK
}

// IsClearing tells whether the payments are clearing.
func IsClearing(c Crisis, pays []int64) bool {
	l, e := paid(c, pays)
	if e != api.OK {
		return false
	}
	var can row
	for party := range pays {
		can[party] = l.can(party)
	}
	return l.pays == can
}

// Failing returns the parties that pay less than they owe.
func Failing(c Crisis) ([]int, api.Errno) {
	l, e := cleared(c)
	if e != api.OK {
		return nil, e
	}
	var failing []int
	for party := range l.parties {
		if l.pays[party] < l.owed[party] {
			failing = append(failing, party)
		}
	}
	return failing, api.OK
}

// Worths returns what each party has in the end.
func Worths(c Crisis) ([]int64, api.Errno) {
	l, e := cleared(c)
	if e != api.OK {
		return nil, e
	}
	worths := make([]int64, l.parties)
	for party := range worths {
		worths[party] = l.cash[party] + l.gets[party] - l.pays[party]
	}
	return worths, api.OK
}

// Waves returns how failure spreads.
func Waves(c Crisis) ([][]int, api.Errno) {
	if e := CheckCrisis(c); e != api.OK {
		return nil, e
	}
	l := openLedger(c)
	var waves [][]int
	failed := set(0)
	for {
		wave := l.short()
		if len(wave) == 0 {
			return waves, api.OK
		}
		waves = append(waves, wave)
		for _, party := range wave {
			failed |= 1 << party
		}
		// No payments can be greater than those of the waves before: so it goes on from these.
		l.lower(failed)
	}
}

// Rescue returns the least amount that must be added to a party's cash so that it does not fail: what it lacks if it pays
// all that it owes and the others pay what they can then.
func Rescue(c Crisis, party int) (int64, api.Errno) {
	if e := CheckCrisis(c); e != api.OK {
		return 0, e
	}
	if party < 0 || party >= len(c.Cash) {
		return 0, api.ErrArg
	}
	l := openLedger(c)
	l.lower(all &^ (1 << party))
	return l.owed[party] - l.can(party), api.OK
}
