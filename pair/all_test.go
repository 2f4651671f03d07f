package pair_test

import (
	"math"
	"math/rand/v2"
	"slices"
	"testing"

	"oast/api"
	"oast/pair"
)

// P5.4: the chapter's example, and fairs with few stable allotments.
func TestAll(t *testing.T) {
	wantAll(t, cross(), 1000, api.OK, []int{0, 1}, []int{1, 0})
	wantAll(t, quotas(cross(), 2, 0), 1000, api.OK, []int{0, 0})
	wantAll(t, pair.Fair{}, 1, api.OK, []int{})
	wantAll(t, wide(0, 3), 5, api.OK, []int{})
	wantAll(t, wide(3, 0), 5, api.OK, []int{-1, -1, -1})
	wantAll(t, wide(1, 1), 1, api.OK, []int{-1})
	wantAll(t, crosses(2), 1000, api.OK, []int{0, 1, 2, 3}, []int{0, 1, 3, 2}, []int{1, 0, 2, 3}, []int{1, 0, 3, 2})
	wantAll(t, circle(3), 1000, api.OK, []int{0, 1, 2}, []int{1, 2, 0}, []int{2, 0, 1})
}

// P5.4: the order is that of the brewers' numbers, not that in which a grower likes them.
func TestOrderOfAll(t *testing.T) {
	f := crosses(2)
	f.Growers[0], f.Growers[1] = f.Growers[1], f.Growers[0]
	f.Brewers[0], f.Brewers[1] = f.Brewers[1], f.Brewers[0]
	wantEnds(t, f, []int{1, 0, 2, 3}, []int{0, 1, 3, 2})
	wantAll(t, f, 1000, api.OK, []int{0, 1, 2, 3}, []int{0, 1, 3, 2}, []int{1, 0, 2, 3}, []int{1, 0, 3, 2})
	wantAll(t, f, 3, api.OK, []int{0, 1, 2, 3}, []int{0, 1, 3, 2}, []int{1, 0, 2, 3})
}

// P5.4: who has no brewer in any of them has -1 in all of them.
func TestAllWithoutBrewers(t *testing.T) {
	f := crosses(2)
	f.Growers = slices.Insert(f.Growers, 2, []int{0, 2}, nil)
	for i, l := range f.Brewers {
		for j, grower := range l {
			if grower >= 2 {
				l[j] = grower + 2
			}
		}
		f.Brewers[i] = append(l, 2, 3)
	}
	wantAll(t, f, 1000, api.OK, []int{0, 1, -1, -1, 2, 3}, []int{0, 1, -1, -1, 3, 2}, []int{1, 0, -1, -1, 2, 3}, []int{1, 0, -1, -1, 3, 2})
}

// P5.4: most is from 1 to 1000.
func TestMost(t *testing.T) {
	for _, most := range []int{0, -1, 1001, math.MinInt, math.MaxInt} {
		wantAll(t, cross(), most, api.ErrArg)
		wantAll(t, pair.Fair{}, most, api.ErrArg)
	}
	wantAll(t, cross(), 1, api.OK, []int{0, 1})
	wantAll(t, cross(), 2, api.OK, []int{0, 1}, []int{1, 0})
	wantAll(t, cross(), 3, api.OK, []int{0, 1}, []int{1, 0})
	for _, most := range []int{1, 2, 999, 1000} {
		if l, e := pair.All(power(4), most); e != api.OK || len(l) != most {
			t.Errorf("All(power(4), %d): %d allotments, error %d", most, len(l), e)
		}
	}
}

// P5.4: fairs with known numbers of stable allotments.
func TestNumbersOfAll(t *testing.T) {
	for k, want := range []int{1, 2, 10, 268, 1000} {
		if l, e := pair.All(power(k), 1000); e != api.OK || len(l) != want {
			t.Errorf("All(power(%d)): %d allotments, error %d, want %d", k, len(l), e, want)
		}
	}
	for k := range 10 {
		if l, e := pair.All(crosses(k), 1000); e != api.OK || len(l) != 1<<k {
			t.Errorf("All(crosses(%d)): %d allotments, error %d", k, len(l), e)
		}
	}
}

// P5.4: of 2^32 stable allotments, the first 1000.
func TestFirstOfVeryMany(t *testing.T) {
	l, e := pair.All(crosses(32), 1000)
	if e != api.OK || len(l) != 1000 {
		t.Fatalf("All(crosses(32)): %d allotments, error %d", len(l), e)
	}
	for i := range l {
		want := count(64)
		for bit := range 32 {
			if i>>bit&1 == 1 {
				at := 62 - 2*bit
				want[at], want[at+1] = at+1, at
			}
		}
		if !slices.Equal(l[i], want) {
			t.Fatalf("All(crosses(32)): allotment %d is %v", i, l[i])
		}
	}
}

// P5.4, P5.8, P5.10: large fairs of all kinds: the allotments are stable and rise, the ends are the best and the worst of
// them, and the same growers have a brewer in all of them.
func TestLargeFairs(t *testing.T) {
	r := rand.New(rand.NewPCG(5, 4))
	fairs := []pair.Fair{power(6), power(5), circle(64), crosses(32), quotas(power(6), slices.Repeat([]int{3, 1}, 32)...)}
	for _, most := range []int{1, 2, 5, 64} {
		fairs = append(fairs, anyFair(r, 64, 64, most), anyFair(r, 64, 20, most), anyFair(r, 20, 64, most))
	}
	for i := range 8 {
		f := pair.Fair{Growers: fullLists(r, 64, 64), Brewers: fullLists(r, 64, 64), Quotas: slices.Repeat([]int{1 + i/4}, 64)}
		fairs = append(fairs, f)
	}
	for _, f := range fairs {
		l, e := pair.All(f, 300)
		if e != api.OK || len(l) == 0 {
			t.Fatalf("All(%v): %d allotments, error %d", f, len(l), e)
		}
		best, _ := pair.Growers(f)
		worst, _ := pair.Brewers(f)
		if !blockless(f, best) || !blockless(f, worst) {
			t.Errorf("%v: the ends %v and %v are not stable", f, best, worst)
		}
		for i, a := range l {
			if i > 0 && slices.Compare(l[i-1], a) >= 0 || !blockless(f, a) {
				t.Errorf("All(%v): allotment %d is not stable, or not greater: %v", f, i, a)
			}
			for grower := range a {
				if place(f, grower, a[grower]) < place(f, grower, best[grower]) || place(f, grower, a[grower]) > place(f, grower, worst[grower]) {
					t.Errorf("%v: %v is not between %v and %v", f, a, best, worst)
				}
			}
			wantSameStay(t, f, best, a)
		}
	}
}

// P5.4, P5.5: the stable allotments of one call are closed under Join and Meet.
func TestClosed(t *testing.T) {
	f := power(3)
	all, _ := pair.All(f, 1000)
	r := rand.New(rand.NewPCG(5, 5))
	for range 1500 {
		a, b := all[r.IntN(len(all))], all[r.IntN(len(all))]
		join, e := pair.Join(f, a, b)
		if _, found := slices.BinarySearchFunc(all, join, slices.Compare[[]int]); e != api.OK || !found {
			t.Fatalf("Join(%v, %v): %v, error %d", a, b, join, e)
		}
		meet, e := pair.Meet(f, a, b)
		if _, found := slices.BinarySearchFunc(all, meet, slices.Compare[[]int]); e != api.OK || !found {
			t.Fatalf("Meet(%v, %v): %v, error %d", a, b, meet, e)
		}
	}
}
