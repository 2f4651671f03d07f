package pair_test

import (
	"slices"
	"testing"

	"oast/api"
	"oast/pair"
)

// with returns the fair with another list of a grower.
func with(f pair.Fair, grower int, list ...int) pair.Fair {
	f.Growers = slices.Clone(f.Growers)
	f.Growers[grower] = list
	return f
}

// withBrewer returns the fair with another list of a brewer.
func withBrewer(f pair.Fair, brewer int, list ...int) pair.Fair {
	f.Brewers = slices.Clone(f.Brewers)
	f.Brewers[brewer] = list
	return f
}

// quotas returns the fair with other quotas.
func quotas(f pair.Fair, q ...int) pair.Fair {
	f.Quotas = q
	return f
}

// wide is a fair with so many growers and brewers, whose lists are empty.
func wide(growers, brewers int) pair.Fair {
	return pair.Fair{Growers: make([][]int, growers), Brewers: make([][]int, brewers), Quotas: make([]int, brewers)}
}

// wrongFairs are fairs that are not valid, by the error that Check returns.
func wrongFairs() map[api.Errno][]pair.Fair {
	l := map[api.Errno][]pair.Fair{
		api.ErrLong: {
			wide(65, 0), wide(0, 65), wide(65, 65), quotas(wide(65, 2)), quotas(wide(2, 65)), quotas(wide(65, 1), -1),
			with(wide(65, 2), 0, 7), withBrewer(wide(1, 65), 64, 7),
		},
		api.ErrShape: {
			quotas(cross()), quotas(cross(), 1), quotas(cross(), 1, 1, 1), quotas(wide(0, 0), 0), quotas(cross(), -1),
			quotas(cross(), 1, 1, -1), with(quotas(cross(), 1), 0, 7),
		},
		api.ErrArg: {
			quotas(cross(), -1, 1), quotas(cross(), 1, 65), with(quotas(cross(), 1, -1), 0, 7),
		},
		api.ErrList: {
			with(cross(), 0, 0, 0), with(cross(), 1, 0, 1, 0), with(cross(), 1, 2), with(cross(), 0, -1),
			withBrewer(cross(), 0, 1, 1), withBrewer(cross(), 1, 1, 0, 1), withBrewer(cross(), 0, 2), withBrewer(cross(), 1, -1),
			with(wide(1, 0), 0, 0), withBrewer(wide(0, 1), 0, 0), with(wide(3, 2), 0, 2), withBrewer(wide(2, 3), 0, 2),
			with(cross(), 0, make([]int, 100)...), withBrewer(wide(64, 64), 63, append(count(64), 0)...),
		},
	}
	for _, x := range notNumbers {
		l[api.ErrList] = append(l[api.ErrList], with(cross(), 1, 0, x), withBrewer(cross(), 1, x, 0))
		if x != 64 {
			l[api.ErrArg] = append(l[api.ErrArg], quotas(cross(), x, 1), quotas(cross(), 1, x))
		}
	}
	return l
}

// P5.1: Check names what is wrong, in the order of the promise.
func TestWrongFairs(t *testing.T) {
	for want, fairs := range wrongFairs() {
		for _, f := range fairs {
			wantCheck(t, f, want)
		}
	}
}

// P5.1: the other functions return first what Check returns, whatever else is wrong.
func TestWrongFairsInCalls(t *testing.T) {
	for want, fairs := range wrongFairs() {
		for _, f := range fairs {
			if l, e := pair.Growers(f); e != want || len(l) != 0 {
				t.Errorf("Growers(%v): %v, error %d, want error %d", f, l, e, want)
			}
			if l, e := pair.Brewers(f); e != want || len(l) != 0 {
				t.Errorf("Brewers(%v): %v, error %d, want error %d", f, l, e, want)
			}
			for _, l := range [][]int{nil, slices.Repeat([]int{-1}, len(f.Growers)), {9}} {
				wantPossible(t, f, l, false)
				wantStable(t, f, l, false)
				wantBlocking(t, f, l, want)
				wantJoin(t, f, l, l, want)
				wantMeet(t, f, l, nil, want)
				wantRank(t, f, l, 0, 0, want)
			}
			wantAll(t, f, 1, want)
			wantAll(t, f, 0, want)
			wantCertain(t, f, want)
		}
	}
}

// P5.1: fairs of all sizes are valid, with quotas to the ends of their range and lists of any length.
func TestValidFairs(t *testing.T) {
	full := circle(64)
	for _, f := range []pair.Fair{
		{}, cross(), wide(64, 64), wide(64, 0), wide(0, 64), wide(1, 0), full, quotas(full, slices.Repeat([]int{64}, 64)...),
		quotas(full, make([]int, 64)...), with(cross(), 0), with(cross(), 0, 1), withBrewer(cross(), 1, 1),
		quotas(cross(), 64, 0), {Growers: [][]int{{}}, Brewers: [][]int{}, Quotas: []int{}},
	} {
		wantCheck(t, f, api.OK)
	}
}

// P5.2: the chapter's examples.
func TestEnds(t *testing.T) {
	wantEnds(t, cross(), []int{0, 1}, []int{1, 0})
	wantEnds(t, quotas(cross(), 2, 0), []int{0, 0}, []int{0, 0})
}

// P5.2: who is out of question for the other side, or finds no place, has no brewer.
func TestNoBrewer(t *testing.T) {
	wantEnds(t, pair.Fair{}, nil, nil)
	wantEnds(t, wide(3, 0), []int{-1, -1, -1}, []int{-1, -1, -1})
	wantEnds(t, wide(0, 3), nil, nil)
	wantEnds(t, wide(2, 2), []int{-1, -1}, []int{-1, -1})
	wantEnds(t, quotas(cross(), 0, 0), []int{-1, -1}, []int{-1, -1})
	wantEnds(t, quotas(cross(), 1, 0), []int{-1, 0}, []int{-1, 0})
	wantEnds(t, with(cross(), 0), []int{-1, 1}, []int{-1, 1})
	wantEnds(t, with(cross(), 0, 1), []int{1, 0}, []int{1, 0})
	wantEnds(t, withBrewer(cross(), 0), []int{1, -1}, []int{1, -1})
	wantEnds(t, withBrewer(cross(), 0, 0), []int{0, 1}, []int{0, 1})
	wantEnds(t, with(withBrewer(cross(), 0, 0), 0, 1), []int{1, -1}, []int{1, -1})
}

// P5.2: a brewer with a quota keeps the growers that it likes best.
func TestQuotas(t *testing.T) {
	one := pair.Fair{Growers: [][]int{{0}, {0}, {0}, {0}}, Brewers: [][]int{{2, 0, 3, 1}}}
	wantEnds(t, quotas(one, 1), []int{-1, -1, 0, -1}, []int{-1, -1, 0, -1})
	wantEnds(t, quotas(one, 2), []int{0, -1, 0, -1}, []int{0, -1, 0, -1})
	wantEnds(t, quotas(one, 3), []int{0, -1, 0, 0}, []int{0, -1, 0, 0})
	wantEnds(t, quotas(one, 4), []int{0, 0, 0, 0}, []int{0, 0, 0, 0})
	wantEnds(t, quotas(one, 64), []int{0, 0, 0, 0}, []int{0, 0, 0, 0})
	two := pair.Fair{
		Growers: [][]int{{0, 1}, {0, 1}, {1, 0}, {1, 0}},
		Brewers: [][]int{{2, 3, 0, 1}, {0, 1, 2, 3}},
	}
	wantEnds(t, quotas(two, 2, 2), []int{0, 0, 1, 1}, []int{1, 1, 0, 0})
	wantEnds(t, quotas(two, 3, 1), []int{0, 0, 1, 0}, []int{0, 1, 0, 0})
	wantEnds(t, quotas(two, 1, 1), []int{1, -1, 0, -1}, []int{1, -1, 0, -1})
}

// P5.2, P5.10: in a circle the growers have their first brewers, or the brewers their first growers.
func TestCircles(t *testing.T) {
	for _, n := range []int{1, 2, 3, 7, 63, 64} {
		wantEnds(t, circle(n), shift(n, 0), shift(n, n-1))
	}
	wantEnds(t, power(6), count(64), power(6).Growers[63])
}

// P5.6: the chapter's example, and pairs that are certain beside others that are not.
func TestCertain(t *testing.T) {
	wantCertain(t, cross(), api.OK)
	wantCertain(t, pair.Fair{}, api.OK)
	wantCertain(t, wide(2, 2), api.OK)
	wantCertain(t, quotas(cross(), 2, 0), api.OK, pair.Pair{Grower: 0, Brewer: 0}, pair.Pair{Grower: 1, Brewer: 0})
	wantCertain(t, with(cross(), 0, 1), api.OK, pair.Pair{Grower: 0, Brewer: 1}, pair.Pair{Grower: 1, Brewer: 0})
	wantCertain(t, with(cross(), 0), api.OK, pair.Pair{Grower: 1, Brewer: 1})
	f := crosses(3)
	f.Growers[2] = []int{2}
	wantCertain(t, f, api.OK, pair.Pair{Grower: 2, Brewer: 2}, pair.Pair{Grower: 3, Brewer: 3})
}

// P5.6: the places of a possible allotment that need not be stable.
func TestRank(t *testing.T) {
	wantRank(t, cross(), []int{0, 1}, 0, 2, api.OK)
	wantRank(t, cross(), []int{1, 0}, 2, 0, api.OK)
	wantRank(t, cross(), []int{-1, 0}, 1, 0, api.OK)
	wantRank(t, cross(), []int{-1, -1}, 0, 0, api.OK)
	wantRank(t, quotas(cross(), 2, 0), []int{0, 0}, 1, 1, api.OK)
	wantRank(t, pair.Fair{}, nil, 0, 0, api.OK)
	wantRank(t, circle(64), shift(64, 63), 64*63, 0, api.OK)
	wantRank(t, circle(64), shift(64, 1), 64, 64*62, api.OK)
	for _, l := range wrongShapes() {
		wantRank(t, cross(), l, 0, 0, api.ErrShape)
	}
	for _, l := range impossible() {
		wantRank(t, cross(), l, 0, 0, api.ErrNone)
	}
}
