package dry_test

import (
	"math/rand/v2"
	"reflect"
	"slices"
	"testing"

	"oast/dry"
)

// fenced is a list with something beyond its length, where nobody may read or write.
func fenced[T any](l []T, fence T) []T {
	return append(append(make([]T, 0, len(l)+1), l...), fence)[:len(l)]
}

// wantFenced asks whether a list and what lies beyond it are as they were.
func wantFenced[T comparable](t *testing.T, l, was []T, fence T) {
	t.Helper()
	if !slices.Equal(l, was) || l[:len(l)+1][len(l)] != fence {
		t.Errorf("changed: %v, beyond it %v, was %v", l, l[:len(l)+1][len(l)], was)
	}
}

// answers are the results of all calls.
func answers(l []dry.Load, kilns int, p []dry.Turn, c dry.Crush) []any {
	var all []any
	add := func(x ...any) { all = append(all, x...) }
	two := func(x, y any) { add(x, y) }
	add(dry.Check(l))
	two(dry.Fits(l, kilns))
	two(dry.Plan(l, kilns))
	add(dry.IsPlan(l, kilns, p))
	two(dry.Proof(l, kilns))
	add(dry.Proves(l, kilns, c))
	two(dry.Kilns(l))
	two(dry.Delay(l, kilns))
	two(dry.Early(l, kilns))
	set, worth, e := dry.Best(l, kilns)
	add(set, worth, e)
	two(dry.Busy(l))
	return all
}

// R4, R7: arguments stay as they are, also beyond their length, and the same calls return the same.
func TestArgumentsStay(t *testing.T) {
	r := rand.New(rand.NewPCG(12, 7))
	for range 20 {
		for _, longest := range []int{0, 1} {
			plain := anyLoads(r, 12, 0, 6, longest)
			kilns := 1 + r.IntN(8)
			turns := []dry.Turn{}
			for i, x := range plain {
				turns = append(turns, dry.Turn{Load: i, From: x.Ready, To: x.Ready + x.Length})
			}
			slices.Reverse(turns)
			loads, hours := []int{5, 3, 8, 0}, [][2]int{{0, 1}, {1, 3}, {5, 6}}
			l, p := fenced(plain, dry.Load{Ready: -1}), fenced(turns, dry.Turn{Load: -1})
			c := dry.Crush{Loads: fenced(loads, -1), Hours: fenced(hours, [2]int{-1, -1})}
			before := answers(l, kilns, p, c)
			if again := answers(l, kilns, p, c); !reflect.DeepEqual(before, again) {
				t.Errorf("the same calls: %v, then %v", before, again)
			}
			wantFenced(t, l, plain, dry.Load{Ready: -1})
			wantFenced(t, p, turns, dry.Turn{Load: -1})
			wantFenced(t, c.Loads, loads, -1)
			wantFenced(t, c.Hours, hours, [2]int{-1, -1})
		}
	}
}

// spoil writes to all the memory of a list.
func spoil[T any](l []T) {
	clear(l[:cap(l)])
}

// R4: results are new memory: what is written to them changes no other result.
func TestResultsAreNew(t *testing.T) {
	l := []dry.Load{short(0, 2, 1), short(0, 1, 2), short(1, 2, 3), short(4, 6, 4)}
	crowd := append(l, short(0, 1, 5), short(4, 5, 6), short(4, 5, 7))
	for range 2 {
		plan, _ := dry.Plan(l, 2)
		hours, _ := dry.Early(l, 2)
		set, _, _ := dry.Best(crowd, 1)
		spans, _ := dry.Busy(l)
		c, _ := dry.Proof(crowd, 1)
		if len(plan) != 4 || !slices.Equal(hours, []int{0, 0, 1, 4}) || !slices.Equal(set, []int{2, 3, 4, 6}) ||
			!slices.Equal(spans, [][3]int{{0, 2, 2}, {4, 6, 1}}) || !dry.Proves(crowd, 1, c) {
			t.Errorf("%v, %v, %v, %v, %v", plan, hours, set, spans, c)
		}
		spoil(plan)
		spoil(hours)
		spoil(set)
		spoil(spans)
		spoil(c.Loads)
		if !slices.ContainsFunc(c.Hours, func(x [2]int) bool { return x[1] > 0 }) {
			t.Error("two slices of a result share memory")
		}
		spoil(c.Hours)
	}
}
