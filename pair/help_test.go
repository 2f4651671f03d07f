package pair_test

import (
	"math"
	"math/rand/v2"
	"slices"
	"testing"

	"oast/api"
	"oast/pair"
)

// notNumbers are numbers that nobody among a few has.
var notNumbers = []int{-2, math.MinInt, math.MaxInt, 64, 65}

// cross is the chapter's first example.
func cross() pair.Fair {
	return pair.Fair{Growers: [][]int{{0, 1}, {1, 0}}, Brewers: [][]int{{1, 0}, {0, 1}}, Quotas: []int{1, 1}}
}

// crosses are so many examples of the first kind side by side.
func crosses(n int) pair.Fair {
	var f pair.Fair
	for i := 0; i < 2*n; i++ {
		f.Growers = append(f.Growers, []int{i, i ^ 1})
		f.Brewers = append(f.Brewers, []int{i ^ 1, i})
		f.Quotas = append(f.Quotas, 1)
	}
	return f
}

// power is a fair of 2^k growers and as many brewers, whose lists are one another's opposite: it has very many stable
// allotments.
func power(k int) pair.Fair {
	n := 1 << k
	f := pair.Fair{Growers: make([][]int, n), Brewers: make([][]int, n), Quotas: slices.Repeat([]int{1}, n)}
	for i := range n {
		for x := range n {
			f.Growers[i] = append(f.Growers[i], i^x)
			f.Brewers[i] = append(f.Brewers[i], i^(n-1-x))
		}
	}
	return f
}

// circle is a fair in which each grower likes the brewers from its own number on, and each brewer the growers from the
// one after its own number on.
func circle(n int) pair.Fair {
	f := pair.Fair{Growers: make([][]int, n), Brewers: make([][]int, n), Quotas: slices.Repeat([]int{1}, n)}
	for i := range n {
		for x := range n {
			f.Growers[i] = append(f.Growers[i], (i+x)%n)
			f.Brewers[i] = append(f.Brewers[i], (i+1+x)%n)
		}
	}
	return f
}

// shift is the allotment that gives each grower the brewer so many numbers further on.
func shift(n, by int) []int {
	l := make([]int, n)
	for i := range l {
		l[i] = (i + by) % n
	}
	return l
}

// count is the list 0, 1, and so on.
func count(n int) []int { return shift(max(n, 1), 0)[:n] }

// anyFair is a fair with lists of any length; its quotas are at most most.
func anyFair(r *rand.Rand, growers, brewers, most int) pair.Fair {
	f := pair.Fair{Growers: anyLists(r, growers, brewers), Brewers: anyLists(r, brewers, growers)}
	for range brewers {
		f.Quotas = append(f.Quotas, r.IntN(most+1))
	}
	return f
}

// anyLists are lists of different ones of n numbers, most of them of many.
func anyLists(r *rand.Rand, lists, n int) [][]int {
	l := make([][]int, lists)
	for i := range l {
		l[i] = r.Perm(n)[:n-min(r.IntN(n+1), r.IntN(n+1), r.IntN(n+1))]
	}
	return l
}

// fullLists are lists of all n numbers.
func fullLists(r *rand.Rand, lists, n int) [][]int {
	l := make([][]int, lists)
	for i := range l {
		l[i] = r.Perm(n)
	}
	return l
}

// orders are all lists of different ones of n numbers.
func orders(n int) [][]int {
	l := [][]int{{}}
	for at := 0; at < len(l); at++ {
		for x := range n {
			if !slices.Contains(l[at], x) {
				l = append(l, append(slices.Clone(l[at]), x))
			}
		}
	}
	return l
}

func sameLists(a, b [][]int) bool { return slices.EqualFunc(a, b, slices.Equal[[]int]) }

func copyLists(l [][]int) [][]int {
	c := make([][]int, len(l))
	for i := range l {
		c[i] = slices.Clone(l[i])
	}
	return c
}

func wantCheck(t *testing.T, f pair.Fair, want api.Errno) {
	t.Helper()
	if e := pair.Check(f); e != want {
		t.Errorf("Check(%v): error %d, want %d", f, e, want)
	}
}

func wantEnds(t *testing.T, f pair.Fair, growers, brewers []int) {
	t.Helper()
	if l, e := pair.Growers(f); e != api.OK || !slices.Equal(l, growers) {
		t.Errorf("Growers(%v): %v, error %d, want %v", f, l, e, growers)
	}
	if l, e := pair.Brewers(f); e != api.OK || !slices.Equal(l, brewers) {
		t.Errorf("Brewers(%v): %v, error %d, want %v", f, l, e, brewers)
	}
}

func wantPossible(t *testing.T, f pair.Fair, l []int, want bool) {
	t.Helper()
	if ok := pair.Possible(f, l); ok != want {
		t.Errorf("Possible(%v, %v): %v", f, l, ok)
	}
}

func wantStable(t *testing.T, f pair.Fair, l []int, want bool) {
	t.Helper()
	if ok := pair.Stable(f, l); ok != want {
		t.Errorf("Stable(%v, %v): %v", f, l, ok)
	}
}

func wantBlocking(t *testing.T, f pair.Fair, l []int, want api.Errno, pairs ...pair.Pair) {
	t.Helper()
	p, e := pair.Blocking(f, l)
	if e != want || !slices.Equal(p, pairs) {
		t.Errorf("Blocking(%v, %v): %v, error %d, want %v, error %d", f, l, p, e, pairs, want)
	}
}

func wantAll(t *testing.T, f pair.Fair, most int, want api.Errno, lists ...[]int) {
	t.Helper()
	l, e := pair.All(f, most)
	if e != want || !sameLists(l, lists) {
		t.Errorf("All(%v, %d): %v, error %d, want %v, error %d", f, most, l, e, lists, want)
	}
}

func wantJoin(t *testing.T, f pair.Fair, a, b []int, want api.Errno, join ...int) {
	t.Helper()
	l, e := pair.Join(f, a, b)
	if e != want || !slices.Equal(l, join) {
		t.Errorf("Join(%v, %v, %v): %v, error %d, want %v, error %d", f, a, b, l, e, join, want)
	}
}

func wantMeet(t *testing.T, f pair.Fair, a, b []int, want api.Errno, meet ...int) {
	t.Helper()
	l, e := pair.Meet(f, a, b)
	if e != want || !slices.Equal(l, meet) {
		t.Errorf("Meet(%v, %v, %v): %v, error %d, want %v, error %d", f, a, b, l, e, meet, want)
	}
}

func wantCertain(t *testing.T, f pair.Fair, want api.Errno, pairs ...pair.Pair) {
	t.Helper()
	p, e := pair.Certain(f)
	if e != want || !slices.Equal(p, pairs) {
		t.Errorf("Certain(%v): %v, error %d, want %v, error %d", f, p, e, pairs, want)
	}
}

func wantRank(t *testing.T, f pair.Fair, l []int, growers, brewers int, want api.Errno) {
	t.Helper()
	g, b, e := pair.Rank(f, l)
	if g != growers || b != brewers || e != want {
		t.Errorf("Rank(%v, %v): %d, %d, error %d, want %d, %d, error %d", f, l, g, b, e, growers, brewers, want)
	}
}

// swap is a swap with these lists.
func swap(lists ...[]int) pair.Swap { return pair.Swap{Lists: lists} }

func wantCore(t *testing.T, s pair.Swap, core ...int) {
	t.Helper()
	if l, e := pair.Core(s); e != api.OK || !slices.Equal(l, core) {
		t.Errorf("Core(%v): %v, error %d, want %v", s, l, e, core)
	}
}

func wantRings(t *testing.T, s pair.Swap, rings ...[]int) {
	t.Helper()
	if l, e := pair.Rings(s); e != api.OK || !sameLists(l, rings) {
		t.Errorf("Rings(%v): %v, error %d, want %v", s, l, e, rings)
	}
}

// wantBetter asks for a coalition, and examines it by its definition, or asks for none.
func wantBetter(t *testing.T, s pair.Swap, l []int, want bool) {
	t.Helper()
	c, ok := pair.Better(s, l)
	if ok != want || !ok && len(c) > 0 || ok && !(slices.IsSorted(c) && isCoalition(s, l, c)) {
		t.Errorf("Better(%v, %v): %v, %v, want %v", s, l, c, ok, want)
	}
}
