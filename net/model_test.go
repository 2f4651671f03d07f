package net_test

import (
	"slices"

	"oast/net"
)

// What the chapter defines, as it defines it.

func sum(t [][]int64) int64 {
	s := int64(0)
	for _, l := range t {
		for _, x := range l {
			s += x
		}
	}
	return s
}

func owed(t [][]int64, party int) int64 { return sum([][]int64{t[party]}) }

func due(t [][]int64, party int) int64 {
	s := int64(0)
	for _, l := range t {
		s += l[party]
	}
	return s
}

func position(t [][]int64, party int) int64 { return due(t, party) - owed(t, party) }

// minus is a table without what another one says of each debt.
func minus(t, c [][]int64) [][]int64 {
	t = copyTable(t)
	for i := range t {
		for j := range t {
			t[i][j] -= c[i][j]
		}
	}
	return t
}

func isCancelling(t, c [][]int64) bool {
	if len(c) != len(t) {
		return false
	}
	for i := range t {
		if len(c[i]) != len(t) {
			return false
		}
	}
	for i := range t {
		for j := range t {
			if c[i][j] < 0 || c[i][j] > t[i][j] {
				return false
			}
		}
		if position(c, i) != 0 {
			return false
		}
	}
	return true
}

func bound(t [][]int64, ranks []int64) int64 {
	s := int64(0)
	for i := range t {
		for j := range t {
			if x := 1 + ranks[i] - ranks[j]; x > 0 {
				s += t[i][j] * x
			}
		}
	}
	return s
}

// each visits all lists whose elements are from 0 to those of most.
func each(most []int64, visit func([]int64)) {
	l := make([]int64, len(most))
	for {
		visit(l)
		at := 0
		for at < len(l) && l[at] == most[at] {
			l[at] = 0
			at++
		}
		if at == len(l) {
			return
		}
		l[at]++
	}
}

// greatest is the greatest amount of all cancellings.
func greatest(t [][]int64) int64 {
	best := int64(-1)
	each(slices.Concat(t...), func(l []int64) {
		c := slices.Collect(slices.Chunk(l, len(t)))
		if isCancelling(t, c) {
			best = max(best, sum(c))
		}
	})
	return best
}

func isRing(t [][]int64, l []int) bool {
	for i, party := range l {
		if party < 0 || party >= len(t) || slices.Contains(l[:i], party) {
			return false
		}
	}
	for i, party := range l {
		if t[party][l[(i+1)%len(l)]] == 0 {
			return false
		}
	}
	return len(l) > 0
}

// hasRing follows the debts from each party on.
func hasRing(t [][]int64) bool {
	for start := range t {
		met := []int{start}
		for at := 0; at < len(met); at++ {
			for party, debt := range t[met[at]] {
				if debt > 0 && party == start {
					return true
				}
				if debt > 0 && !slices.Contains(met, party) {
					met = append(met, party)
				}
			}
		}
	}
	return false
}

func settle(t [][]int64) []net.Transfer {
	var left []int64
	for party := range t {
		left = append(left, position(t, party))
	}
	var l []net.Transfer
	for slices.Min(left) < 0 {
		from, to := slices.Index(left, slices.Min(left)), slices.Index(left, slices.Max(left))
		x := min(-left[from], left[to])
		left[from] += x
		left[to] -= x
		l = append(l, net.Transfer{From: from, To: to, Amount: x})
	}
	return l
}

func receives(c net.Crisis, pays []int64, party int) int64 {
	return receivesOf(c, allOwed(c), pays, party)
}

func receivesOf(c net.Crisis, all, pays []int64, party int) int64 {
	s := int64(0)
	for i, l := range c.Debts {
		if l[party] > 0 {
			s += pays[i] * l[party] / all[i]
		}
	}
	return s
}

// can is what a party pays if the others pay so much.
func can(c net.Crisis, all, pays []int64, party int) int64 {
	return min(all[party], c.Cash[party]+receivesOf(c, all, pays, party))
}

func isClearing(c net.Crisis, pays []int64) bool {
	all := allOwed(c)
	for party := range pays {
		if pays[party] != can(c, all, pays, party) {
			return false
		}
	}
	return true
}

// pays are the greatest payments that are clearing among some parties, while the others pay what they owe: from above,
// whoever pays more than it can pays what it can, until nobody does.
func pays(c net.Crisis, among []int) []int64 {
	all := allOwed(c)
	l := slices.Clone(all)
	for lowered := true; lowered; {
		lowered = false
		for _, party := range among {
			if x := can(c, all, l, party); x < l[party] {
				l[party], lowered = x, true
			}
		}
	}
	return l
}

func allOwed(c net.Crisis) []int64 {
	var l []int64
	for party := range c.Debts {
		l = append(l, owed(c.Debts, party))
	}
	return l
}

// count is the list 0, 1, and so on.
func count(n int) []int {
	var l []int
	for i := range n {
		l = append(l, i)
	}
	return l
}

func waves(c net.Crisis) [][]int {
	var l [][]int
	all := allOwed(c)
	for {
		so := slices.Concat(l...)
		p := pays(c, so)
		var wave []int
		for party := range c.Debts {
			if !slices.Contains(so, party) && can(c, all, p, party) < all[party] {
				wave = append(wave, party)
			}
		}
		if len(wave) == 0 {
			return l
		}
		l = append(l, wave)
	}
}

func failing(c net.Crisis) []int {
	var l []int
	p := pays(c, count(len(c.Debts)))
	for party := range p {
		if p[party] < owed(c.Debts, party) {
			l = append(l, party)
		}
	}
	return l
}

func fails(c net.Crisis, party int) bool { return slices.Contains(failing(c), party) }

// richer is a crisis in which a party has so much more cash.
func richer(c net.Crisis, party int, more int64) net.Crisis {
	c.Cash = slices.Clone(c.Cash)
	c.Cash[party] += more
	return c
}
