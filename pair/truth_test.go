package pair_test

import (
	"math/rand/v2"
	"reflect"
	"slices"
	"testing"

	"oast/api"
	"oast/pair"
)

// P5.9, W2: no list gains a grower a brewer that it likes better by its true list.
func TestGrowersNeedNotLie(t *testing.T) {
	smallFairs(8, 120, func(r *rand.Rand, f pair.Fair) {
		truth, _ := pair.Growers(f)
		for grower := range f.Growers {
			for _, lie := range orders(min(len(f.Brewers), 4)) {
				l, e := pair.Growers(with(f, grower, lie...))
				if e != api.OK {
					t.Fatalf("Growers with %v: error %d", lie, e)
				}
				got := slices.Index(f.Growers[grower], l[grower])
				if got >= 0 && got < place(f, grower, truth[grower]) {
					t.Errorf("%v: with the list %v, grower %d gets brewer %d", f, lie, grower, l[grower])
				}
			}
		}
	})
}

// P5.9, W2: no list gains a member of a swap a slot that it likes better by its true list.
func TestMembersNeedNotLie(t *testing.T) {
	r := rand.New(rand.NewPCG(9, 5))
	for range 120 {
		n := 1 + r.IntN(4)
		s := pair.Swap{Lists: anyLists(r, n, n)}
		truth, _ := pair.Core(s)
		for member := range n {
			for _, lie := range orders(n) {
				lied := pair.Swap{Lists: slices.Clone(s.Lists)}
				lied.Lists[member] = lie
				l, _ := pair.Core(lied)
				if worth(s, member, l[member]) > worth(s, member, truth[member]) {
					t.Errorf("%v: with the list %v, member %d gets slot %d", s, lie, member, l[member])
				}
			}
		}
	}
}

// W1: an allotment that is not stable has a blocking pair, an outcome that is not the core one a coalition.
func TestWitnesses(t *testing.T) {
	f := circle(4)
	for _, l := range tuples(4, 4) {
		pairs, e := pair.Blocking(f, l)
		if e == api.OK && pair.Stable(f, l) == (len(pairs) > 0) {
			t.Errorf("Blocking(%v, %v): %v", f, l, pairs)
		}
	}
	s := pair.Swap{Lists: circle(4).Growers}
	for _, l := range outcomes(4) {
		wantBetter(t, s, l, !slices.Equal(l, count(4)))
	}
}

// fenced copies lists to slices with memory beyond their length that nobody may read or write.
func fenced(lists [][]int) [][]int {
	l := make([][]int, len(lists), len(lists)+2)
	for i, list := range lists {
		l[i] = append(make([]int, 0, len(list)+4), list...)
		copy(l[i][len(list):len(list)+4], []int{-9, -9, -9, -9})
	}
	copy(l[len(lists):cap(l)], [][]int{{-9}, {-9}})
	return l
}

// R4: arguments stay as they are, also beyond their length.
func TestArgumentsStay(t *testing.T) {
	f := circle(4)
	f = pair.Fair{Growers: fenced(f.Growers), Brewers: fenced(f.Brewers), Quotas: fenced([][]int{f.Quotas})[0]}
	a, b := fenced([][]int{shift(4, 1)})[0], fenced([][]int{shift(4, 2)})[0]
	s := pair.Swap{Lists: fenced([][]int{{1, 0, 2}, {2, 3}, {3}, {0, 3}})}
	call := func() []any {
		var l []any
		add := func(x, e any) { l = append(l, x, e) }
		add(pair.Growers(f))
		add(pair.Brewers(f))
		add(pair.Blocking(f, a))
		add(pair.Possible(f, a), pair.Stable(f, b))
		add(pair.All(f, 100))
		add(pair.Join(f, a, b))
		add(pair.Meet(f, a, b))
		add(pair.Certain(f))
		growers, brewers, _ := pair.Rank(f, a)
		add(growers, brewers)
		add(pair.Core(s))
		add(pair.Rings(s))
		add(pair.Better(s, a))
		return l
	}
	first := call()
	if again := call(); !reflect.DeepEqual(first, again) {
		t.Errorf("the same calls: %v, then %v", first, again)
	}
	for _, lists := range [][][]int{f.Growers, f.Brewers, s.Lists, {f.Quotas, a, b}} {
		for _, l := range lists {
			if fence := l[len(l) : len(l)+4]; !slices.Equal(fence, []int{-9, -9, -9, -9}) {
				t.Errorf("beyond %v: %v", l, fence)
			}
		}
	}
	if c := circle(4); !sameLists(f.Growers, c.Growers) || !sameLists(f.Brewers, c.Brewers) || !slices.Equal(f.Quotas, c.Quotas) {
		t.Errorf("the fair is changed: %v", f)
	}
	if !slices.Equal(a, shift(4, 1)) || !slices.Equal(b, shift(4, 2)) || !sameLists(s.Lists, [][]int{{1, 0, 2}, {2, 3}, {3}, {0, 3}}) {
		t.Errorf("the lists are changed: %v, %v, %v", a, b, s)
	}
}

// R4: results are new memory: what is written to one of them changes neither another one nor an argument.
func TestResultsAreNew(t *testing.T) {
	f, a, b := crosses(2), []int{0, 1, 3, 2}, []int{1, 0, 2, 3}
	want, _ := pair.All(f, 10)
	want = copyLists(want)
	spoil := func(l []int) {
		for i := range l[:cap(l)] {
			l[:cap(l)][i] = -7
		}
	}
	all, _ := pair.All(f, 10)
	for i, l := range all {
		if !slices.Equal(l, want[i]) {
			t.Errorf("All(%v): %v", f, all)
		}
		spoil(l)
	}
	for _, l := range [][]int{a, b} {
		join, _ := pair.Join(f, l, l)
		spoil(join)
		meet, _ := pair.Meet(f, l, l)
		spoil(meet)
	}
	best, _ := pair.Growers(f)
	spoil(best)
	worst, _ := pair.Brewers(f)
	spoil(worst)
	wantAll(t, f, 10, api.OK, want...)
	wantJoin(t, f, a, b, api.OK, 0, 1, 2, 3)
	s := swap([]int{3}, []int{2}, []int{1}, []int{0})
	rings, _ := pair.Rings(s)
	for i, want := range [][]int{{0, 3}, {1, 2}} {
		if !slices.Equal(rings[i], want) {
			t.Errorf("Rings(%v): %v", s, rings)
		}
		spoil(rings[i])
	}
	core, _ := pair.Core(s)
	spoil(core)
	wantRings(t, s, []int{0, 3}, []int{1, 2})
	wantCore(t, s, 3, 2, 1, 0)
}
