package dry_test

import (
	"math/rand/v2"
	"slices"
	"testing"

	"oast/api"
	"oast/dry"
)

// P7.5: the earliest due first.
func TestEarly(t *testing.T) {
	wantEarly(t, nil, 1, api.OK)
	wantEarly(t, second(), 2, api.OK, 0, 0, 1)
	wantEarly(t, second(), 1, api.ErrLate)
	wantEarly(t, []dry.Load{short(0, 5, 0), short(0, 3, 0), short(0, 4, 0)}, 1, api.OK, 2, 0, 1)
	// Of equal ones the lesser number.
	wantEarly(t, many(4, short(2, 9, 0)), 1, api.OK, 2, 3, 4, 5)
	wantEarly(t, many(5, short(2, 9, 0)), 2, api.OK, 2, 2, 3, 3, 4)
	wantEarly(t, []dry.Load{short(0, 9, 0), short(1, 9, 0), short(0, 9, 0)}, 1, api.OK, 0, 1, 2)
	// One that is due earlier goes before those that wait, but not before those that were dried.
	wantEarly(t, []dry.Load{short(0, 9, 0), short(0, 8, 0), short(1, 7, 0), short(1, 2, 0)}, 1, api.OK, 3, 0, 2, 1)
	// Nobody is ready for some time.
	wantEarly(t, []dry.Load{short(7, 9, 0), short(2, 9, 0), short(7, 8, 0)}, 1, api.OK, 8, 2, 7)
	wantEarly(t, []dry.Load{short(api.MaxTime-1, api.MaxTime, 0), short(0, api.MaxTime, 0)}, 1, api.OK, api.MaxTime-1, 0)
	wantEarly(t, many(2, short(api.MaxTime-1, api.MaxTime, 0)), 1, api.ErrLate)
	wantEarly(t, many(64, short(3, 4, 0)), 64, api.OK, slices.Repeat([]int{3}, 64)...)
	wantEarly(t, many(65, short(3, 4, 0)), 64, api.ErrLate)
}

// P7.5, R1: a list that is not short comes before one that is late, and the number of kilns before both.
func TestNotShort(t *testing.T) {
	for _, l := range [][]dry.Load{first(), third(), {load(0, 2, 2)}, {short(0, 1, 0), short(0, 1, 0), load(0, 2, 2)}} {
		wantEarly(t, l, 1, api.ErrShape)
		if set, worth, e := dry.Best(l, 1); len(set) > 0 || worth != 0 || e != api.ErrShape {
			t.Errorf("Best(%v): %v, %d, error %d", l, set, worth, e)
		}
		wantEarly(t, l, 0, api.ErrArg)
		if set, worth, e := dry.Best(l, 65); len(set) > 0 || worth != 0 || e != api.ErrArg {
			t.Errorf("Best(%v): %v, %d, error %d", l, set, worth, e)
		}
	}
}

// P7.5: the best set.
func TestBest(t *testing.T) {
	wantBest(t, nil, 1, 0)
	wantBest(t, second(), 1, 8, 1, 2)
	wantBest(t, second(), 2, 13, 0, 1, 2)
	// Of sets that are worth the same, the one with the load that is worth most; of equal ones, the lesser number.
	wantBest(t, many(3, short(0, 2, 4)), 1, 8, 0, 1)
	wantBest(t, []dry.Load{short(0, 1, 4), short(1, 2, 4), short(0, 1, 4), short(1, 2, 4)}, 1, 8, 0, 1)
	wantBest(t, []dry.Load{short(1, 2, 4), short(0, 1, 3), short(1, 2, 4), short(0, 1, 4)}, 1, 8, 0, 3)
	// Loads that are worth nothing are taken if they fit.
	wantBest(t, []dry.Load{short(0, 1, 0)}, 1, 0, 0)
	wantBest(t, []dry.Load{short(0, 2, 0), short(0, 2, 0), short(0, 2, 3), short(0, 2, 0)}, 1, 3, 0, 2)
	// A load is exchanged for another hour, and that one's load for the next.
	wantBest(t, []dry.Load{short(0, 3, 9), short(0, 2, 8), short(0, 1, 7), short(0, 3, 6)}, 1, 24, 0, 1, 2)
	wantBest(t, []dry.Load{short(0, 3, 9), short(1, 2, 8), short(0, 1, 7), short(2, 3, 6)}, 1, 24, 0, 1, 2)
	// One that does not fit leaves all as it was.
	wantBest(t, []dry.Load{short(0, 2, 9), short(1, 3, 8), short(0, 1, 7), short(0, 2, 6), short(2, 4, 5)}, 1, 29, 0, 1, 2, 4)
	wantBest(t, many(maxLoads, short(0, 1, api.MaxTime)), 2, 2*api.MaxTime, 0, 1)
	wantBest(t, many(130, short(api.MaxTime-2, api.MaxTime, 1)), api.MaxKilns, 128, numbers(128)...)
}

// numbers are the numbers from 0 to n - 1.
func numbers(n int) []int {
	var l []int
	for i := range n {
		l = append(l, i)
	}
	return l
}

// shortLists are short lists of all sizes, crowded so that some of them have a plan.
func shortLists(seed uint64, count int, visit func(r *rand.Rand, l []dry.Load, kilns int)) {
	r := rand.New(rand.NewPCG(seed, 7))
	for range count {
		n := 1 + r.IntN(60)
		if r.IntN(5) == 0 {
			n = maxLoads
		}
		kilns := 1 + r.IntN(5)
		hours := 1 + n*(1+r.IntN(12))/(4*kilns)
		start := []int{0, r.IntN(1000), api.MaxTime - hours}[r.IntN(3)]
		visit(r, anyLoads(r, n, start, hours, 1), kilns)
	}
}

// P7.5, P7.8: large short lists: the plan is the one made hour by hour, and is a plan if there is any.
func TestLargeEarly(t *testing.T) {
	counts := map[bool]int{}
	shortLists(10, 400, func(r *rand.Rand, l []dry.Load, kilns int) {
		hours, ok := early(l, kilns)
		counts[ok]++
		if fits, e := dry.Fits(l, kilns); fits != ok || e != api.OK {
			t.Errorf("Fits(%v, %d): %v, error %d", l, kilns, fits, e)
		}
		if !ok {
			wantEarly(t, l, kilns, api.ErrLate)
			return
		}
		wantEarly(t, l, kilns, api.OK, hours...)
		var p []dry.Turn
		for i, hour := range hours {
			p = append(p, dry.Turn{Load: i, From: hour, To: hour + 1})
		}
		wantIsPlan(t, l, kilns, true, p...)
	})
	if counts[true] < 50 || counts[false] < 50 {
		t.Errorf("%v", counts)
	}
}

// P7.5, P7.9: large short lists: the set is that of the loads that still fit, the greatest Worth first; it fits, and a kiln
// more does not make it worth less.
func TestLargeBest(t *testing.T) {
	shortLists(11, 60, func(r *rand.Rand, l []dry.Load, kilns int) {
		set := greedy(l, kilns)
		wantBest(t, l, kilns, worth(l, set), set...)
		if ok, e := dry.Fits(take(l, set), kilns); !ok || e != api.OK {
			t.Errorf("Fits(%v of %v, %d): %v, error %d", set, l, kilns, ok, e)
		}
		if _, more, e := dry.Best(l, kilns+1); more < worth(l, set) || e != api.OK {
			t.Errorf("Best(%v, %d): %d, error %d, with one less %d", l, kilns+1, more, e, worth(l, set))
		}
	})
}

// P7.6: the busy hours.
func TestBusy(t *testing.T) {
	wantBusy(t, nil)
	wantBusy(t, first(), [3]int{0, 2, 3})
	wantBusy(t, second(), [3]int{0, 1, 3}, [3]int{1, 2, 1})
	wantBusy(t, third(), [3]int{0, 1, 1}, [3]int{1, 3, 2}, [3]int{3, 4, 1})
	wantBusy(t, []dry.Load{load(0, api.MaxTime, 1)}, [3]int{0, api.MaxTime, 1})
	wantBusy(t, []dry.Load{load(7, 9, 1), load(2, 4, 1)}, [3]int{2, 4, 1}, [3]int{7, 9, 1})
	// Others may come: the number is the same.
	wantBusy(t, []dry.Load{load(4, 9, 1), load(2, 4, 1)}, [3]int{2, 9, 1})
	wantBusy(t, []dry.Load{load(0, 4, 1), load(1, 3, 1), load(4, 7, 1), load(3, 5, 1)}, [3]int{0, 1, 1}, [3]int{1, 5, 2}, [3]int{5, 7, 1})
	wantBusy(t, []dry.Load{load(0, 2, 1), load(0, 2, 1), load(2, 4, 1)}, [3]int{0, 2, 2}, [3]int{2, 4, 1})
	wantBusy(t, many(maxLoads, load(5, 8, 2)), [3]int{5, 8, maxLoads})
}
