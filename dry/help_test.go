package dry_test

import (
	"math"
	"math/rand/v2"
	"slices"
	"testing"

	"oast/api"
	"oast/dry"
)

// maxLoads is how many loads a list has at most.
const maxLoads = 256

// load is a load without a worth.
func load(ready, due, length int) dry.Load {
	return dry.Load{Ready: ready, Due: due, Length: length}
}

// short is a short load.
func short(ready, due, worth int) dry.Load {
	return dry.Load{Ready: ready, Due: due, Length: 1, Worth: worth}
}

// many is a list of n such loads.
func many(n int, x dry.Load) []dry.Load { return slices.Repeat([]dry.Load{x}, n) }

// The chapter's examples.
func first() []dry.Load { return []dry.Load{load(0, 2, 2), load(0, 2, 1), load(0, 2, 1)} }

func second() []dry.Load { return []dry.Load{short(0, 1, 5), short(0, 1, 7), short(0, 2, 1)} }

func third() []dry.Load { return []dry.Load{load(0, 4, 3), load(1, 3, 2)} }

// anyLoad is a load from a time on, within so many hours; with less than 1 as longest, its length is of all its hours.
func anyLoad(r *rand.Rand, start, hours, longest int) dry.Load {
	ready := start + r.IntN(hours)
	due := ready + 1 + r.IntN(start+hours-ready)
	length := due - ready
	if longest > 0 {
		length = min(length, longest)
	}
	return dry.Load{Ready: ready, Due: due, Length: 1 + r.IntN(length), Worth: r.IntN(8)}
}

func anyLoads(r *rand.Rand, n, start, hours, longest int) []dry.Load {
	l := make([]dry.Load, n)
	for i := range l {
		l[i] = anyLoad(r, start, hours, longest)
	}
	return l
}

// smallLists are many lists so small that all that can be done can be tried.
func smallLists(seed uint64, count, longest int, visit func(r *rand.Rand, l []dry.Load)) {
	r := rand.New(rand.NewPCG(seed, 7))
	for range count {
		start := []int{0, 1, api.MaxTime - 6}[r.IntN(3)]
		visit(r, anyLoads(r, r.IntN(6), start, 1+r.IntN(6), longest))
	}
}

// largeLists are some lists of all kinds and sizes.
func largeLists(seed uint64, count int, visit func(r *rand.Rand, l []dry.Load)) {
	r := rand.New(rand.NewPCG(seed, 7))
	for range count {
		n := 1 + r.IntN(40)
		if r.IntN(10) == 0 {
			n = maxLoads - r.IntN(2)
		}
		hours := []int{3, 20, 300, api.MaxTime}[r.IntN(4)]
		longest := []int{0, 1, 2, 1 + hours/10}[r.IntN(4)]
		visit(r, anyLoads(r, n, r.IntN(1+api.MaxTime-hours), hours, longest))
	}
}

// wrongLists are lists that are not valid, each with its error.
func wrongLists() map[api.Errno][][]dry.Load {
	loads := []dry.Load{
		{},
		load(-1, 1, 1), load(-1, 0, 1), load(math.MinInt, 1, 1), load(math.MinInt, math.MaxInt, 1),
		load(0, 0, 0), load(0, 0, 1), load(1, 1, 0), load(2, 1, 1), load(2, 1, -1), load(5, 0, 1), load(0, -1, 1), load(math.MaxInt, math.MinInt, 1),
		load(0, api.MaxTime+1, 1), load(api.MaxTime, api.MaxTime+1, 1), load(0, math.MaxInt, 1), load(api.MaxTime, api.MaxTime, 1),
		load(0, 1, 0), load(0, 1, -1), load(0, 9, math.MinInt),
		load(0, 1, 2), load(3, 5, 3), load(3, 5, 5), load(0, api.MaxTime, api.MaxTime+1), load(0, 9, math.MaxInt),
		short(0, 1, -1), short(0, 1, math.MinInt), short(0, 1, api.MaxTime+1), short(0, 1, math.MaxInt),
	}
	wrong := map[api.Errno][][]dry.Load{
		api.ErrLong: {many(maxLoads+1, load(0, 1, 1)), many(maxLoads+1, dry.Load{}), many(1000, load(0, 2, 2))},
	}
	for _, x := range loads {
		wrong[api.ErrArg] = append(wrong[api.ErrArg],
			[]dry.Load{x}, []dry.Load{x, load(0, 1, 1)}, []dry.Load{load(0, 2, 2), x}, append(many(maxLoads-1, load(0, 1, 1)), x))
	}
	return wrong
}

// wrongKilns are numbers of kilns that are out of their range.
func wrongKilns() []int { return []int{0, -1, api.MaxKilns + 1, math.MinInt, math.MaxInt} }

func later(l []dry.Load, delay int) []dry.Load {
	l = slices.Clone(l)
	for i := range l {
		l[i].Due += delay
	}
	return l
}

// take is the loads of a set.
func take(l []dry.Load, set []int) []dry.Load {
	var taken []dry.Load
	for _, i := range set {
		taken = append(taken, l[i])
	}
	return taken
}

func worth(l []dry.Load, set []int) int {
	sum := 0
	for _, x := range take(l, set) {
		sum += x.Worth
	}
	return sum
}

// rises reports whether a list is rising.
func rises(l []int) bool {
	for i := 1; i < len(l); i++ {
		if l[i-1] >= l[i] {
			return false
		}
	}
	return true
}

func isInOrder(p []dry.Turn) bool {
	for i := 1; i < len(p); i++ {
		if a, b := p[i-1], p[i]; a.From > b.From || a.From == b.From && a.Load >= b.Load {
			return false
		}
	}
	return true
}

// wantPlan asks for a plan, and examines it by its definition.
func wantPlan(t *testing.T, l []dry.Load, kilns int) {
	t.Helper()
	if ok, e := dry.Fits(l, kilns); !ok || e != api.OK {
		t.Errorf("Fits(%v, %d): %v, error %d", l, kilns, ok, e)
	}
	p, e := dry.Plan(l, kilns)
	if e != api.OK || !isInOrder(p) || !isPlan(l, kilns, p) {
		t.Errorf("Plan(%v, %d): %v, error %d", l, kilns, p, e)
	}
	if !dry.IsPlan(l, kilns, p) {
		t.Errorf("IsPlan(%v, %d, %v): false", l, kilns, p)
	}
	if c, ok := dry.Proof(l, kilns); ok || len(c.Loads) > 0 || len(c.Hours) > 0 {
		t.Errorf("Proof(%v, %d): %v, %v", l, kilns, c, ok)
	}
}

// wantProof asks for a crush, and examines it by its definition.
func wantProof(t *testing.T, l []dry.Load, kilns int) {
	t.Helper()
	if ok, e := dry.Fits(l, kilns); ok || e != api.OK {
		t.Errorf("Fits(%v, %d): %v, error %d", l, kilns, ok, e)
	}
	if p, e := dry.Plan(l, kilns); e != api.ErrLate || len(p) > 0 {
		t.Errorf("Plan(%v, %d): %v, error %d", l, kilns, p, e)
	}
	c, ok := dry.Proof(l, kilns)
	if !ok || !rises(c.Loads) || !proves(l, kilns, c) {
		t.Errorf("Proof(%v, %d): %v, %v", l, kilns, c, ok)
	}
	if !dry.Proves(l, kilns, c) {
		t.Errorf("Proves(%v, %d, %v): false", l, kilns, c)
	}
}

func wantIsPlan(t *testing.T, l []dry.Load, kilns int, want bool, p ...dry.Turn) {
	t.Helper()
	if ok := dry.IsPlan(l, kilns, p); ok != want {
		t.Errorf("IsPlan(%v, %d, %v): %v", l, kilns, p, ok)
	}
}

func wantProves(t *testing.T, l []dry.Load, kilns int, want bool, loads []int, hours ...[2]int) {
	t.Helper()
	if ok := dry.Proves(l, kilns, dry.Crush{Loads: loads, Hours: hours}); ok != want {
		t.Errorf("Proves(%v, %d, %v, %v): %v", l, kilns, loads, hours, ok)
	}
}

// wantKilns asks for the number of kilns, and for a plan and a proof that show it.
func wantKilns(t *testing.T, l []dry.Load, want int) {
	t.Helper()
	if n, e := dry.Kilns(l); n != want || e != api.OK {
		t.Errorf("Kilns(%v): %d, error %d, want %d", l, n, e, want)
	}
	if want >= 1 && want <= api.MaxKilns {
		wantPlan(t, l, want)
	}
	if want > 1 {
		wantProof(t, l, min(want-1, api.MaxKilns))
	}
}

func wantDelay(t *testing.T, l []dry.Load, kilns, want int) {
	t.Helper()
	if n, e := dry.Delay(l, kilns); n != want || e != api.OK {
		t.Errorf("Delay(%v, %d): %d, error %d, want %d", l, kilns, n, e, want)
	}
}

func wantEarly(t *testing.T, l []dry.Load, kilns int, e api.Errno, want ...int) {
	t.Helper()
	if hours, err := dry.Early(l, kilns); err != e || !slices.Equal(hours, want) {
		t.Errorf("Early(%v, %d): %v, error %d, want %v, error %d", l, kilns, hours, err, want, e)
	}
}

func wantBest(t *testing.T, l []dry.Load, kilns, worth int, want ...int) {
	t.Helper()
	if set, sum, e := dry.Best(l, kilns); e != api.OK || sum != worth || !slices.Equal(set, want) {
		t.Errorf("Best(%v, %d): %v, %d, error %d, want %v, %d", l, kilns, set, sum, e, want, worth)
	}
}

func wantBusy(t *testing.T, l []dry.Load, want ...[3]int) {
	t.Helper()
	if spans, e := dry.Busy(l); e != api.OK || !slices.Equal(spans, want) {
		t.Errorf("Busy(%v): %v, error %d, want %v", l, spans, e, want)
	}
}
