package pair_test

import (
	"testing"

	"oast/api"
	"oast/pair"
)

// wrongShapes are lists that do not have an element for each of two growers.
func wrongShapes() [][]int { return [][]int{nil, {0}, {-1}, {0, 1, -1}, {0, 1, 0}, {7}, {7, 7, 7}} }

// impossible are lists that are no possible allotments of the chapter's first example.
func impossible() [][]int {
	l := [][]int{{0, 0}, {1, 1}, {2, 0}, {0, 2}, {2, 2}, {-2, -2}}
	for _, x := range notNumbers {
		l = append(l, []int{x, 0}, []int{-1, x})
	}
	return l
}

// P5.3: what is possible in the chapter's first example, and what is stable.
func TestJudging(t *testing.T) {
	for _, l := range [][]int{{0, 1}, {1, 0}} {
		wantPossible(t, cross(), l, true)
		wantStable(t, cross(), l, true)
		wantBlocking(t, cross(), l, api.OK)
	}
	for _, l := range [][]int{{-1, -1}, {0, -1}, {-1, 0}, {1, -1}, {-1, 1}} {
		wantPossible(t, cross(), l, true)
		wantStable(t, cross(), l, false)
	}
	for _, l := range wrongShapes() {
		wantPossible(t, cross(), l, false)
		wantStable(t, cross(), l, false)
		wantBlocking(t, cross(), l, api.ErrShape)
	}
	for _, l := range impossible() {
		wantPossible(t, cross(), l, false)
		wantStable(t, cross(), l, false)
		wantBlocking(t, cross(), l, api.ErrNone)
	}
}

// P5.3: a pair must have one another on their lists, and a brewer not more growers than its quota.
func TestPossible(t *testing.T) {
	wantPossible(t, pair.Fair{}, nil, true)
	wantPossible(t, wide(2, 1), []int{-1, -1}, true)
	wantPossible(t, quotas(wide(2, 1), 2), []int{0, -1}, false)
	wantPossible(t, with(cross(), 0), []int{0, -1}, false)
	wantPossible(t, withBrewer(cross(), 0), []int{0, -1}, false)
	wantPossible(t, with(cross(), 0, 1), []int{1, 0}, true)
	wantPossible(t, quotas(cross(), 2, 0), []int{0, 0}, true)
	wantPossible(t, quotas(cross(), 2, 0), []int{-1, 1}, false)
	wantPossible(t, quotas(cross(), 0, 2), []int{1, 1}, true)
	wantPossible(t, quotas(circle(64), append(make([]int, 63), 64)...), shift(64, 0), false)
	same := make([]int, 64)
	wantPossible(t, quotas(circle(64), append([]int{64}, same[1:]...)...), same, true)
	wantPossible(t, quotas(circle(64), append([]int{63}, same[1:]...)...), same, false)
}

// P5.3: a pair blocks if both like it better than what they have, or have nothing; by growers, then by brewers.
func TestBlocking(t *testing.T) {
	wantBlocking(t, pair.Fair{}, nil, api.OK)
	wantBlocking(t, cross(), []int{-1, -1}, api.OK, pair.Pair{Grower: 0, Brewer: 0}, pair.Pair{Grower: 0, Brewer: 1}, pair.Pair{Grower: 1, Brewer: 0}, pair.Pair{Grower: 1, Brewer: 1})
	wantBlocking(t, cross(), []int{0, -1}, api.OK, pair.Pair{Grower: 1, Brewer: 0}, pair.Pair{Grower: 1, Brewer: 1})
	wantBlocking(t, cross(), []int{1, -1}, api.OK, pair.Pair{Grower: 0, Brewer: 0}, pair.Pair{Grower: 1, Brewer: 0})
	wantBlocking(t, cross(), []int{-1, 0}, api.OK, pair.Pair{Grower: 0, Brewer: 1}, pair.Pair{Grower: 1, Brewer: 1})
	wantBlocking(t, quotas(cross(), 0, 0), []int{-1, -1}, api.OK)
	wantBlocking(t, quotas(cross(), 1, 0), []int{0, -1}, api.OK, pair.Pair{Grower: 1, Brewer: 0})
	wantBlocking(t, quotas(cross(), 2, 0), []int{0, -1}, api.OK, pair.Pair{Grower: 1, Brewer: 0})
	wantBlocking(t, with(cross(), 1), []int{0, -1}, api.OK)
	wantBlocking(t, with(cross(), 1, 0), []int{0, -1}, api.OK, pair.Pair{Grower: 1, Brewer: 0})
	wantBlocking(t, withBrewer(cross(), 1, 0), []int{0, -1}, api.OK, pair.Pair{Grower: 1, Brewer: 0})
	wantBlocking(t, withBrewer(cross(), 1), []int{-1, 0}, api.OK)
}

// P5.3: a brewer with all its places taken would let only those go that it likes less.
func TestBlockingWithQuotas(t *testing.T) {
	f := pair.Fair{
		Growers: [][]int{{0, 1}, {0, 1}, {0, 1}, {0, 1}},
		Brewers: [][]int{{3, 2, 1, 0}, {0, 1, 2, 3}},
		Quotas:  []int{2, 2},
	}
	p := func(grower, brewer int) pair.Pair { return pair.Pair{Grower: grower, Brewer: brewer} }
	wantBlocking(t, f, []int{1, 1, 0, 0}, api.OK)
	wantBlocking(t, f, []int{0, 0, 1, 1}, api.OK, p(2, 0), p(3, 0))
	wantBlocking(t, f, []int{0, 1, 0, 1}, api.OK, p(1, 0), p(3, 0))
	wantBlocking(t, f, []int{1, 0, 0, 1}, api.OK, p(3, 0))
	wantBlocking(t, f, []int{1, 0, 1, 0}, api.OK, p(2, 0))
	wantBlocking(t, f, []int{1, -1, 0, 0}, api.OK, p(1, 1))
	wantBlocking(t, f, []int{-1, 1, 0, 0}, api.OK, p(0, 1))
	wantBlocking(t, f, []int{-1, 0, 0, 1}, api.OK, p(0, 1), p(3, 0))
	f.Quotas[0] = 3
	wantBlocking(t, f, []int{1, 1, 0, 0}, api.OK, p(0, 0), p(1, 0))
}

// P5.5: the better and the worse brewers of stable allotments.
func TestJoinAndMeet(t *testing.T) {
	f := crosses(2)
	wantJoin(t, f, []int{0, 1, 3, 2}, []int{1, 0, 2, 3}, api.OK, 0, 1, 2, 3)
	wantMeet(t, f, []int{0, 1, 3, 2}, []int{1, 0, 2, 3}, api.OK, 1, 0, 3, 2)
	wantJoin(t, f, []int{1, 0, 3, 2}, []int{1, 0, 3, 2}, api.OK, 1, 0, 3, 2)
	wantMeet(t, f, []int{0, 1, 2, 3}, []int{0, 1, 2, 3}, api.OK, 0, 1, 2, 3)
	wantJoin(t, circle(64), shift(64, 5), shift(64, 3), api.OK, shift(64, 3)...)
	wantMeet(t, circle(64), shift(64, 5), shift(64, 3), api.OK, shift(64, 5)...)
	wantJoin(t, wide(2, 1), []int{-1, -1}, []int{-1, -1}, api.OK, -1, -1)
	wantMeet(t, wide(2, 1), []int{-1, -1}, []int{-1, -1}, api.OK, -1, -1)
	wantJoin(t, pair.Fair{}, nil, []int{}, api.OK)
	wantMeet(t, pair.Fair{}, []int{}, nil, api.OK)
}

// P5.5: a wrong length of either list comes before an allotment that is not stable.
func TestWrongJoins(t *testing.T) {
	stable := []int{0, 1}
	for _, l := range wrongShapes() {
		for _, other := range append(impossible(), stable, []int{0, -1}, nil) {
			wantJoin(t, cross(), l, other, api.ErrShape)
			wantJoin(t, cross(), other, l, api.ErrShape)
			wantMeet(t, cross(), l, other, api.ErrShape)
			wantMeet(t, cross(), other, l, api.ErrShape)
		}
	}
	for _, l := range append(impossible(), []int{-1, -1}, []int{0, -1}, []int{-1, 0}) {
		wantJoin(t, cross(), l, stable, api.ErrNone)
		wantJoin(t, cross(), stable, l, api.ErrNone)
		wantMeet(t, cross(), l, stable, api.ErrNone)
		wantMeet(t, cross(), stable, l, api.ErrNone)
	}
}
