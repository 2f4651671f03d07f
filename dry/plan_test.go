package dry_test

import (
	"math"
	"math/rand/v2"
	"slices"
	"testing"

	"oast/api"
	"oast/dry"
)

// P7.1: which lists are valid.
func TestCheck(t *testing.T) {
	right := [][]dry.Load{
		nil, {}, first(), second(), third(),
		{load(0, 1, 1)}, {load(0, api.MaxTime, 1)}, {load(0, api.MaxTime, api.MaxTime)}, {load(api.MaxTime-1, api.MaxTime, 1)},
		{short(0, 1, 0)}, {short(0, 1, api.MaxTime)}, {load(3, 5, 2)}, {load(3, 5, 1), load(3, 5, 1)},
		many(maxLoads, load(0, 1, 1)), many(maxLoads, load(0, api.MaxTime, api.MaxTime)),
	}
	for _, l := range right {
		if e := dry.Check(l); e != api.OK {
			t.Errorf("Check(%v): error %d", l, e)
		}
	}
	for want, lists := range wrongLists() {
		for _, l := range lists {
			if e := dry.Check(l); e != want {
				t.Errorf("Check(%v): error %d, want %d", l, e, want)
			}
		}
	}
}

// wantError asks everything that takes a list and kilns and returns an error.
func wantError(t *testing.T, l []dry.Load, kilns int, want api.Errno) {
	t.Helper()
	if ok, e := dry.Fits(l, kilns); ok || e != want {
		t.Errorf("Fits(%v, %d): %v, error %d, want %d", l, kilns, ok, e, want)
	}
	if p, e := dry.Plan(l, kilns); len(p) > 0 || e != want {
		t.Errorf("Plan(%v, %d): %v, error %d, want %d", l, kilns, p, e, want)
	}
	if n, e := dry.Delay(l, kilns); n != 0 || e != want {
		t.Errorf("Delay(%v, %d): %d, error %d, want %d", l, kilns, n, e, want)
	}
	wantEarly(t, l, kilns, want)
	if set, worth, e := dry.Best(l, kilns); len(set) > 0 || worth != 0 || e != want {
		t.Errorf("Best(%v, %d): %v, %d, error %d, want %d", l, kilns, set, worth, e, want)
	}
	if c, ok := dry.Proof(l, kilns); ok || len(c.Loads) > 0 || len(c.Hours) > 0 {
		t.Errorf("Proof(%v, %d): %v, %v", l, kilns, c, ok)
	}
}

// P7.1, R1: all functions return what Check returns first; those that return no error, false.
func TestWrongLists(t *testing.T) {
	for want, lists := range wrongLists() {
		for _, l := range lists {
			for _, kilns := range append(wrongKilns(), 1, api.MaxKilns) {
				wantError(t, l, kilns, want)
			}
			if n, e := dry.Kilns(l); n != 0 || e != want {
				t.Errorf("Kilns(%v): %d, error %d, want %d", l, n, e, want)
			}
			if spans, e := dry.Busy(l); len(spans) > 0 || e != want {
				t.Errorf("Busy(%v): %v, error %d, want %d", l, spans, e, want)
			}
		}
	}
	wantIsPlan(t, []dry.Load{load(-1, 1, 1)}, 1, false, dry.Turn{Load: 0, From: 0, To: 1})
	wantIsPlan(t, []dry.Load{load(0, api.MaxTime+1, 1)}, 1, false, dry.Turn{Load: 0, From: 0, To: 1})
	wantIsPlan(t, []dry.Load{short(0, 1, -1)}, 1, false, dry.Turn{Load: 0, From: 0, To: 1})
	wantIsPlan(t, []dry.Load{load(0, 1, 0)}, 1, false)
	wantProves(t, []dry.Load{load(0, 1, 2)}, 1, false, []int{0}, [2]int{0, 1})
	wantProves(t, append(first(), short(0, 1, -1)), 1, false, []int{0, 1, 2}, [2]int{0, 2})
	long := many(maxLoads+1, load(0, 1, 1))
	wantProves(t, long, 1, false, []int{0, 1}, [2]int{0, 1})
	wantProves(t, long[1:], 1, true, []int{0, 1}, [2]int{0, 1})
}

// P7.1, R9: a number of kilns that is not in its range comes before all that the list could cause.
func TestWrongKilns(t *testing.T) {
	for _, kilns := range wrongKilns() {
		for _, l := range [][]dry.Load{nil, first(), second(), third(), many(maxLoads, load(0, 1, 1)), {load(0, 2, 1)}} {
			wantError(t, l, kilns, api.ErrArg)
		}
		wantIsPlan(t, nil, kilns, false)
		wantIsPlan(t, []dry.Load{load(0, 1, 1)}, kilns, false, dry.Turn{Load: 0, From: 0, To: 1})
		wantProves(t, first(), kilns, false, []int{0, 1, 2}, [2]int{0, 2})
	}
	wantPlan(t, many(api.MaxKilns, load(0, 1, 1)), api.MaxKilns)
	wantProof(t, many(api.MaxKilns+1, load(0, 1, 1)), api.MaxKilns)
}

// P7.2, P7.3: the chapter's examples, and other plain lists.
func TestExamples(t *testing.T) {
	wantPlan(t, first(), 2)
	wantProof(t, first(), 1)
	wantIsPlan(t, first(), 2, true, dry.Turn{Load: 0, From: 0, To: 2}, dry.Turn{Load: 1, From: 0, To: 1}, dry.Turn{Load: 2, From: 1, To: 2})
	wantProves(t, first(), 1, true, []int{0, 1, 2}, [2]int{0, 2})
	wantProof(t, second(), 1)
	wantPlan(t, second(), 2)
	wantProof(t, third(), 1)
	wantPlan(t, third(), 2)
	wantProves(t, third(), 1, true, []int{0, 1}, [2]int{0, 4})
	wantPlan(t, nil, 1)
	wantPlan(t, nil, api.MaxKilns)
	wantPlan(t, []dry.Load{load(0, 1, 1)}, 1)
	wantPlan(t, []dry.Load{load(api.MaxTime-1, api.MaxTime, 1)}, 1)
	wantPlan(t, []dry.Load{load(0, api.MaxTime, api.MaxTime)}, 1)
	wantProof(t, many(2, load(0, api.MaxTime, api.MaxTime)), 1)
	wantProof(t, many(2, load(api.MaxTime-1, api.MaxTime, 1)), 1)
	// Three loads of two hours each share two kilns for three hours: one of them goes from one kiln to the other.
	wantPlan(t, many(3, load(5, 8, 2)), 2)
	wantProof(t, append(many(3, load(5, 8, 2)), load(7, 9, 2)), 2)
	// A load that is not ready all the time leaves a kiln free.
	wantPlan(t, []dry.Load{load(0, 10, 7), load(2, 5, 3)}, 1)
	wantProof(t, []dry.Load{load(0, 10, 8), load(2, 5, 3)}, 1)
	// The crowd is in two spans with time between them.
	wantProof(t, []dry.Load{load(0, 2, 2), load(8, 10, 2), load(0, 10, 7)}, 1)
	wantPlan(t, []dry.Load{load(0, 2, 2), load(8, 10, 2), load(0, 10, 6)}, 1)
}

// P7.2: which plan is not specified, but that of this package has turns as long as they can be.
func TestLongTurns(t *testing.T) {
	p, e := dry.Plan([]dry.Load{load(0, 9, 9), load(2, 5, 3), load(4, 7, 3)}, 3)
	want := []dry.Turn{{Load: 0, From: 0, To: 9}, {Load: 1, From: 2, To: 5}, {Load: 2, From: 4, To: 7}}
	if e != api.OK || !slices.Equal(p, want) {
		t.Errorf("%v, error %d", p, e)
	}
}

// P7.2: what is a plan.
func TestIsPlan(t *testing.T) {
	l := []dry.Load{load(1, 5, 2), load(0, 3, 3)}
	a, b := dry.Turn{Load: 0, From: 3, To: 5}, dry.Turn{Load: 1, From: 0, To: 3}
	right := [][]dry.Turn{
		{a, b}, {b, a},
		{{Load: 0, From: 4, To: 5}, b, {Load: 0, From: 3, To: 4}},
		{a, {Load: 1, From: 2, To: 3}, {Load: 1, From: 1, To: 2}, {Load: 1, From: 0, To: 1}},
	}
	for _, p := range right {
		wantIsPlan(t, l, 1, true, p...)
		wantIsPlan(t, l, 2, true, p...)
		wantIsPlan(t, l, api.MaxKilns, true, p...)
	}
	wrong := [][]dry.Turn{
		nil, {a}, {b}, {a, b, a}, {a, b, b},
		{a, b, {Load: 2, From: 5, To: 6}}, {a, b, {Load: -1, From: 5, To: 6}}, {a, b, {Load: math.MaxInt, From: 5, To: 6}},
		{a, b, {Load: math.MinInt, From: 5, To: 6}},
		// Empty turns, and turns backwards.
		{a, b, {Load: 0, From: 2, To: 2}}, {a, b, {Load: 0, From: 3, To: 3}}, {a, b, {Load: 0, From: 3, To: 1}},
		{a, {Load: 1, From: 0, To: 2}, {Load: 1, From: 3, To: 2}}, {{Load: 0, From: 5, To: 3}, b},
		// Outside of the load's hours.
		{{Load: 0, From: 4, To: 6}, b}, {{Load: 0, From: 0, To: 2}, b}, {a, {Load: 1, From: -1, To: 2}}, {a, {Load: 1, From: 1, To: 4}},
		{{Load: 0, From: math.MinInt, To: math.MaxInt}, b}, {{Load: 0, From: 3, To: math.MaxInt}, b}, {{Load: 0, From: math.MinInt, To: 5}, b},
		// Too short, too long, twice in an hour.
		{{Load: 0, From: 3, To: 4}, b}, {{Load: 0, From: 2, To: 5}, b}, {a, {Load: 1, From: 0, To: 2}, {Load: 1, From: 1, To: 2}},
		{{Load: 0, From: 3, To: 4}, {Load: 0, From: 3, To: 4}, b},
		{a, {Load: 1, From: 0, To: 2}, {Load: 1, From: 0, To: 1}},
		{{Load: 0, From: 3, To: 5}, {Load: 1, From: 0, To: 3}, {Load: 0, From: 1, To: 2}},
	}
	for _, p := range wrong {
		wantIsPlan(t, l, 2, false, p...)
	}
	wantIsPlan(t, l, 1, false, dry.Turn{Load: 0, From: 2, To: 4}, b)
	wantIsPlan(t, l, 2, true, dry.Turn{Load: 0, From: 2, To: 4}, b)
	wantIsPlan(t, nil, 1, true)
	wantIsPlan(t, nil, 1, false, dry.Turn{Load: 0, From: 0, To: 1})
}

// P7.2: never more loads than kilns, when loads follow on one another.
func TestIsRoom(t *testing.T) {
	l := many(5, load(0, 4, 2))
	p := []dry.Turn{{Load: 0, From: 0, To: 2}, {Load: 1, From: 0, To: 2}, {Load: 2, From: 2, To: 4}, {Load: 3, From: 2, To: 4}, {Load: 4, From: 1, To: 3}}
	wantIsPlan(t, l, 3, true, p...)
	wantIsPlan(t, l, 2, false, p...)
	wantIsPlan(t, l[:4], 2, true, p[:4]...)
	wantIsPlan(t, l[:4], 1, false, p[:4]...)
}

// P7.2: a plan of very many turns.
func TestIsPlanOfManyTurns(t *testing.T) {
	var p []dry.Turn
	l := many(2, load(0, api.MaxTime, 100000))
	for hour := range 200000 {
		p = append(p, dry.Turn{Load: hour % 2, From: hour, To: hour + 1})
	}
	rand.New(rand.NewPCG(1, 7)).Shuffle(len(p), func(a, b int) { p[a], p[b] = p[b], p[a] })
	if !dry.IsPlan(l, 1, p) {
		t.Error("not a plan")
	}
	p[0] = p[1]
	if dry.IsPlan(l, 1, p) {
		t.Error("a plan")
	}
}

// P7.3: what proves that there is no plan.
func TestProves(t *testing.T) {
	l := []dry.Load{load(0, 6, 4), load(2, 4, 2), load(3, 9, 4), load(9, 12, 1)}
	all := []int{0, 1, 2, 3}
	// In the hours from 0 to 6: 4, 2 and 1 of 6.
	wantProves(t, l, 1, true, all, [2]int{0, 6})
	wantProves(t, l, 1, true, []int{2, 0, 1}, [2]int{0, 6})
	wantProves(t, l, 1, true, []int{2, 0, 1}, [2]int{0, 1}, [2]int{1, 6})
	wantProves(t, l, 1, true, []int{1, 2, 0}, [2]int{0, 9})
	wantProves(t, l, 1, true, []int{1, 2, 0}, [2]int{0, 2}, [2]int{2, 4}, [2]int{4, 6})
	wantProves(t, l, 1, false, []int{0, 1}, [2]int{0, 6})
	wantProves(t, l, 1, false, []int{1, 2}, [2]int{0, 6})
	wantProves(t, l, 1, false, all, [2]int{0, 5})
	wantProves(t, l, 1, false, all, [2]int{0, 12})
	wantProves(t, l, 2, false, all, [2]int{0, 6})
	wantProves(t, l, 1, false, nil)
	wantProves(t, l, 1, false, all)
	wantProves(t, l, 1, false, nil, [2]int{0, 6})
	wantProves(t, nil, 1, false, nil)
	wantProves(t, nil, 1, false, nil, [2]int{0, 1})
	// A load that need not be dried in these hours does not count below 0.
	wantProves(t, append(l, load(0, 100, 1)), 1, true, []int{0, 1, 2, 4}, [2]int{0, 6})
}

// P7.3: which crush is not specified, but that of this package has only loads that matter, and spans with time between them.
func TestSmallCrush(t *testing.T) {
	l := []dry.Load{load(8, 12, 1), load(0, 4, 3), load(0, 4, 2), load(1, 3, 1), load(0, 8, 1), load(20, 22, 2), load(21, 22, 1)}
	c, ok := dry.Proof(l, 1)
	if !ok || !slices.Equal(c.Loads, []int{1, 2, 3, 5, 6}) || !slices.Equal(c.Hours, [][2]int{{0, 4}, {21, 22}}) {
		t.Errorf("%v, %v", c, ok)
	}
}

// P7.3: numbers that are no loads, and hours that are no spans.
func TestWrongCrushes(t *testing.T) {
	l := []dry.Load{load(0, 6, 6), load(0, 6, 6), load(0, 6, 6)}
	wantProves(t, l, 1, true, []int{0, 1, 2}, [2]int{0, 3}, [2]int{3, 6})
	for _, loads := range [][]int{
		{0, 1, 2, 3}, {-1, 0, 1, 2}, {0, 1, 2, 2}, {0, 1, 2, 0}, {1, 1, 0}, {0, 1, math.MaxInt}, {0, 1, math.MinInt}, {0, 0, 0, 0},
	} {
		wantProves(t, l, 1, false, loads, [2]int{0, 6})
	}
	for _, hours := range [][][2]int{
		{{-1, 6}}, {{0, api.MaxTime + 1}}, {{0, 0}, {0, 6}}, {{0, 6}, {6, 6}}, {{0, 6}, {8, 7}}, {{6, 0}}, {{3, 6}, {0, 3}},
		{{0, 3}, {2, 6}}, {{0, 6}, {0, 6}}, {{0, 6}, {5, 6}}, {{0, 6}, {5, 7}}, {{0, 6}, {api.MaxTime, api.MaxTime + 1}},
		{{math.MinInt, 6}}, {{0, math.MaxInt}}, {{math.MinInt, math.MaxInt}}, {{0, 6}, {math.MaxInt, math.MinInt}}, {{-2, -1}, {0, 6}},
	} {
		wantProves(t, l, 1, false, []int{0, 1, 2}, hours...)
	}
	end := many(2, load(api.MaxTime-2, api.MaxTime, 2))
	wantProves(t, end, 1, true, []int{0, 1}, [2]int{api.MaxTime - 2, api.MaxTime})
	wantProves(t, end, 1, false, []int{0, 1}, [2]int{api.MaxTime - 2, api.MaxTime + 1})
}

// P7.3: a crush of very many spans.
func TestProvesOfManySpans(t *testing.T) {
	l := many(maxLoads, load(0, api.MaxTime, api.MaxTime))
	var hours [][2]int
	for hour := range api.MaxTime / 2 {
		hours = append(hours, [2]int{2 * hour, 2*hour + 1})
	}
	proves := func(kilns int, loads ...int) bool {
		return dry.Proves(l, kilns, dry.Crush{Loads: loads, Hours: hours})
	}
	if !proves(1, 3, 7) || proves(1, 3) || !proves(api.MaxKilns, numbers(maxLoads)...) {
		t.Error("full loads")
	}
	// Each load must be dried for a quarter of these hours, so all of them fill 64 kilns.
	for i := range l {
		l[i].Length = api.MaxTime/2 + api.MaxTime/8
	}
	if proves(64, numbers(maxLoads)...) || !proves(63, numbers(maxLoads)...) {
		t.Error("loads of a quarter")
	}
	l[100].Length++
	if !proves(64, numbers(maxLoads)...) {
		t.Error("an hour more")
	}
}

// P7.2, P7.3, P7.4, P7.7: lists of all kinds: a plan for the least number of kilns and the least delay, and a proof for less.
func TestLargeLists(t *testing.T) {
	largeLists(7, 40, func(r *rand.Rand, l []dry.Load) {
		n, e := dry.Kilns(l)
		if e != api.OK {
			t.Fatalf("Kilns(%v): error %d", l, e)
		}
		wantKilns(t, l, n)
		kilns := 1 + r.IntN(max(1, min(n, api.MaxKilns)))
		d, e := dry.Delay(l, kilns)
		if e != api.OK || d > 0 != (kilns < n) {
			t.Fatalf("Delay(%v, %d): %d, error %d", l, kilns, d, e)
		}
		if delayed := later(l, d); dry.Check(delayed) == api.OK {
			wantPlan(t, delayed, kilns)
		}
		if delayed := later(l, d-1); d > 0 && dry.Check(delayed) == api.OK {
			wantProof(t, delayed, kilns)
		}
	})
}

// P7.4: numbers of kilns.
func TestKilns(t *testing.T) {
	wantKilns(t, nil, 0)
	wantKilns(t, first(), 2)
	wantKilns(t, second(), 2)
	wantKilns(t, third(), 2)
	wantKilns(t, []dry.Load{load(0, 9, 1)}, 1)
	wantKilns(t, []dry.Load{load(0, 9, 9)}, 1)
	wantKilns(t, many(9, load(0, 9, 1)), 1)
	wantKilns(t, many(10, load(0, 9, 1)), 2)
	wantKilns(t, many(64, load(3, 4, 1)), 64)
	wantKilns(t, many(65, load(3, 4, 1)), 65)
	wantKilns(t, many(maxLoads, load(3, 4, 1)), maxLoads)
	wantKilns(t, many(maxLoads, load(0, api.MaxTime, api.MaxTime)), maxLoads)
	wantKilns(t, many(maxLoads, load(0, api.MaxTime, api.MaxTime/2)), maxLoads/2)
	wantKilns(t, many(maxLoads, load(0, api.MaxTime, api.MaxTime/2+1)), maxLoads/2+1)
}

// P7.4: delays, also above all time.
func TestDelay(t *testing.T) {
	wantDelay(t, nil, 1, 0)
	wantDelay(t, first(), 1, 2)
	wantDelay(t, first(), 2, 0)
	wantDelay(t, first(), api.MaxKilns, 0)
	wantDelay(t, second(), 1, 1)
	wantDelay(t, third(), 1, 1)
	wantDelay(t, []dry.Load{load(0, 5, 5), load(4, 5, 1), load(4, 5, 1)}, 1, 2)
	wantDelay(t, []dry.Load{load(0, 5, 5), load(4, 5, 1), load(4, 5, 1)}, 2, 1)
	wantDelay(t, many(2, load(api.MaxTime-1, api.MaxTime, 1)), 1, 1)
	full := many(maxLoads, load(0, api.MaxTime, api.MaxTime))
	wantDelay(t, full, 1, (maxLoads-1)*api.MaxTime)
	wantDelay(t, full, 2, (maxLoads/2-1)*api.MaxTime)
	wantDelay(t, full, api.MaxKilns, 3*api.MaxTime)
	wantDelay(t, full[1:], api.MaxKilns, 3*api.MaxTime-api.MaxTime/64)
	wantDelay(t, full[2:], api.MaxKilns, 3*api.MaxTime-api.MaxTime/32)
}

// P7.2, P7.3: the largest networks: each load is ready later than the last one and due earlier, or also later.
func TestLargestLists(t *testing.T) {
	r := rand.New(rand.NewPCG(9, 7))
	var nested, stairs []dry.Load
	for i := range maxLoads {
		nested = append(nested, load(i, api.MaxTime-i, 1+r.IntN(api.MaxTime-2*i)))
		stairs = append(stairs, load(i*1900, 500000+i*1900, 1+r.IntN(500000)))
	}
	for _, l := range [][]dry.Load{nested, stairs} {
		n, _ := dry.Kilns(l)
		wantKilns(t, l, n)
		if n < 60 || n > 200 {
			t.Errorf("%d kilns", n)
		}
		wantProof(t, l, 7)
		if d, e := dry.Delay(l, 7); d < api.MaxTime || e != api.OK {
			t.Errorf("Delay: %d, error %d", d, e)
		}
	}
}
