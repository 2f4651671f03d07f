package dry_test

import (
	"math/rand/v2"
	"slices"
	"testing"

	"oast/api"
	"oast/dry"
)

// isPlan is the chapter's definition of a plan. In some hour in which a turn begins, as many loads are dried as in any other.
func isPlan(l []dry.Load, kilns int, p []dry.Turn) bool {
	dried := make([]int, len(l))
	for i, a := range p {
		if a.Load < 0 || a.Load >= len(l) || a.From >= a.To || a.From < l[a.Load].Ready || a.To > l[a.Load].Due {
			return false
		}
		dried[a.Load] += a.To - a.From
		busy := 0
		for j, b := range p {
			if i != j && a.Load == b.Load && max(a.From, b.From) < min(a.To, b.To) {
				return false
			}
			if b.From <= a.From && a.From < b.To {
				busy++
			}
		}
		if busy > kilns {
			return false
		}
	}
	return slices.EqualFunc(dried, l, func(hours int, x dry.Load) bool { return hours == x.Length })
}

// proves is the chapter's definition of a crush that proves something.
func proves(l []dry.Load, kilns int, c dry.Crush) bool {
	hours := 0
	for i, x := range c.Hours {
		if x[0] < 0 || x[1] > api.MaxTime || x[0] >= x[1] || i > 0 && c.Hours[i-1][1] > x[0] {
			return false
		}
		hours += x[1] - x[0]
	}
	sum := 0
	for i, load := range c.Loads {
		if load < 0 || load >= len(l) || slices.Contains(c.Loads[:i], load) {
			return false
		}
		outside := l[load].Due - l[load].Ready
		for _, x := range c.Hours {
			outside -= max(0, min(x[1], l[load].Due)-max(x[0], l[load].Ready))
		}
		sum += max(0, l[load].Length-outside)
	}
	return sum > hours*kilns
}

// possible reports whether there is a plan for a small list: it tries, hour by hour, all sets of loads.
func possible(l []dry.Load, kilns int) bool {
	type state struct {
		hour int
		left [6]int
	}
	start := state{hour: api.MaxTime}
	end := 0
	for i, x := range l {
		start.left[i] = x.Length
		start.hour, end = min(start.hour, x.Ready), max(end, x.Due)
	}
	known := map[state]bool{}
	var try func(s state) bool
	try = func(s state) bool {
		if s.left == [6]int{} {
			return true
		}
		if ok, is := known[s]; s.hour >= end || is {
			return ok
		}
		ok := false
		for set := range 1 << len(l) {
			if next, is := dryHour(l, set, kilns, s.hour, s.left); is && try(state{s.hour + 1, next}) {
				ok = true
				break
			}
		}
		known[s] = ok
		return ok
	}
	return try(start)
}

// dryHour dries a set of loads for an hour, if that can be.
func dryHour(l []dry.Load, set, kilns, hour int, left [6]int) ([6]int, bool) {
	for i, x := range l {
		if set&(1<<i) == 0 {
			continue
		}
		if kilns--; kilns < 0 || left[i] == 0 || hour < x.Ready || hour >= x.Due {
			return left, false
		}
		left[i]--
	}
	return left, true
}

// leastThat is the least number from low on that is right.
func leastThat(low int, right func(int) bool) int {
	for !right(low) {
		low++
	}
	return low
}

// early is the chapter's plan, hour by hour.
func early(l []dry.Load, kilns int) ([]int, bool) {
	hours := make([]int, len(l))
	var left []int
	for i := range l {
		left = append(left, i)
	}
	for hour := 0; len(left) > 0; hour++ {
		for range kilns {
			next := -1
			for _, i := range left {
				if l[i].Ready <= hour && (next < 0 || l[i].Due < l[next].Due) {
					next = i
				}
			}
			if next < 0 {
				break
			}
			if l[next].Due <= hour {
				return nil, false
			}
			hours[next] = hour
			left = slices.DeleteFunc(left, func(i int) bool { return i == next })
		}
		if len(left) > 0 && !slices.ContainsFunc(left, func(i int) bool { return l[i].Ready <= hour }) {
			ready := func(a, b int) int { return l[a].Ready - l[b].Ready }
			hour = max(hour, l[slices.MinFunc(left, ready)].Ready-1)
		}
	}
	return hours, true
}

// byWorth is the numbers of loads in the order of their Worths.
func byWorth(l []dry.Load) []int {
	var order []int
	for i := range l {
		order = append(order, i)
	}
	slices.SortFunc(order, func(a, b int) int {
		if l[a].Worth != l[b].Worth {
			return l[b].Worth - l[a].Worth
		}
		return a - b
	})
	return order
}

// best is the chapter's best set of a small list, of all sets: of those with the greatest sum, the first one in the order.
func best(l []dry.Load, kilns int) []int {
	order := byWorth(l)
	var best []int
	sum, found := 0, false
	// The sets come in the chapter's order: those that have the first load first, and so on.
	for without := range 1 << len(l) {
		var set []int
		for place, i := range order {
			if without&(1<<(len(l)-1-place)) == 0 {
				set = append(set, i)
			}
		}
		slices.Sort(set)
		if fits := possible(take(l, set), kilns); fits && (!found || worth(l, set) > sum) {
			best, sum, found = set, worth(l, set), true
		}
	}
	return best
}

// greedy takes each load with which there is still a plan.
func greedy(l []dry.Load, kilns int) []int {
	var set []int
	for _, i := range byWorth(l) {
		if _, ok := early(take(l, append(set, i)), kilns); ok {
			set = append(set, i)
		}
	}
	slices.Sort(set)
	return set
}

// busy is the chapter's list, hour by hour.
func busy(l []dry.Load) [][3]int {
	var spans [][3]int
	counts := map[int]int{}
	low, high := api.MaxTime, 0
	for _, x := range l {
		low, high = min(low, x.Ready), max(high, x.Due)
		for hour := x.Ready; hour < x.Due; hour++ {
			counts[hour]++
		}
	}
	for hour := low; hour < high; hour++ {
		n := counts[hour]
		if last := len(spans) - 1; last >= 0 && spans[last][1] == hour && spans[last][2] == n {
			spans[last][1]++
		} else if n > 0 {
			spans = append(spans, [3]int{hour, hour + 1, n})
		}
	}
	return spans
}

// P7.2, P7.3, P7.7: small lists, compared with all that can be done.
func TestSmallPlans(t *testing.T) {
	plans := 0
	smallLists(1, 2000, 0, func(r *rand.Rand, l []dry.Load) {
		kilns := 1 + r.IntN(3)
		if possible(l, kilns) {
			plans++
			wantPlan(t, l, kilns)
		} else {
			wantProof(t, l, kilns)
		}
	})
	if plans < 500 || plans > 1500 {
		t.Errorf("%d plans", plans)
	}
}

// P7.4: small lists, compared with all numbers of kilns, and all delays.
func TestSmallNumbers(t *testing.T) {
	smallLists(2, 500, 0, func(r *rand.Rand, l []dry.Load) {
		wantKilns(t, l, leastThat(0, func(kilns int) bool { return possible(l, kilns) }))
		kilns := 1 + r.IntN(3)
		wantDelay(t, l, kilns, leastThat(0, func(delay int) bool { return possible(later(l, delay), kilns) }))
	})
}

// P7.5, P7.8, P7.9: small short lists, compared with the plan hour by hour, and with all sets.
func TestSmallShort(t *testing.T) {
	smallLists(3, 3000, 1, func(r *rand.Rand, l []dry.Load) {
		kilns := 1 + r.IntN(2)
		hours, ok := early(l, kilns)
		if ok != possible(l, kilns) {
			t.Errorf("a plan for %v, %d: %v", l, kilns, ok)
		}
		if ok {
			wantEarly(t, l, kilns, api.OK, hours...)
		} else {
			wantEarly(t, l, kilns, api.ErrLate)
		}
		set := best(l, kilns)
		wantBest(t, l, kilns, worth(l, set), set...)
	})
}

// P7.6: small lists, compared with the numbers hour by hour.
func TestSmallBusy(t *testing.T) {
	smallLists(4, 3000, 0, func(r *rand.Rand, l []dry.Load) { wantBusy(t, l, busy(l)...) })
}

// P7.2: plans, and plans in which something is changed, examined by the definition.
func TestSmallIsPlan(t *testing.T) {
	counts := map[bool]int{}
	smallLists(5, 3000, 0, func(r *rand.Rand, l []dry.Load) {
		kilns := 1 + r.IntN(3)
		p, e := dry.Plan(l, kilns)
		if e != api.OK || len(p) == 0 {
			return
		}
		for range 1 + r.IntN(3) {
			p = change(r, p)
		}
		want := isPlan(l, kilns, p)
		counts[want]++
		wantIsPlan(t, l, kilns, want, p...)
	})
	if counts[true] < 200 || counts[false] < 200 {
		t.Errorf("%v", counts)
	}
}

// change changes something of some turns.
func change(r *rand.Rand, p []dry.Turn) []dry.Turn {
	if len(p) == 0 {
		return p
	}
	p = slices.Clone(p)
	i, j := r.IntN(len(p)), r.IntN(len(p))
	switch r.IntN(7) {
	case 0:
		p[i].From += r.IntN(3) - 1
	case 1:
		p[i].To += r.IntN(3) - 1
	case 2:
		shift := r.IntN(5) - 2
		p[i].From, p[i].To = p[i].From+shift, p[i].To+shift
	case 3:
		p[i].Load, p[j].Load = p[j].Load, p[i].Load
	case 4:
		p = slices.Delete(p, i, i+1)
	case 5:
		// A turn cut in two is still the same.
		middle := p[i].From + 1
		p = append(p, dry.Turn{Load: p[i].Load, From: middle, To: p[i].To})
		p[i].To = middle
	case 6:
		r.Shuffle(len(p), func(a, b int) { p[a], p[b] = p[b], p[a] })
	}
	return p
}

// P7.3, P7.7: any crushes of small lists, examined by the definition; one that proves something does so only of a list that
// has no plan.
func TestSmallProves(t *testing.T) {
	counts := map[bool]int{}
	smallLists(6, 4000, 0, func(r *rand.Rand, l []dry.Load) {
		if len(l) == 0 {
			return
		}
		kilns := 1 + r.IntN(2)
		for range 3 {
			c := anyCrush(r, l)
			want := proves(l, kilns, c)
			counts[want]++
			wantProves(t, l, kilns, want, c.Loads, c.Hours...)
			if want && possible(l, kilns) {
				t.Errorf("%v proves that %v has no plan", c, l)
			}
		}
	})
	if counts[true] < 200 || counts[false] < 200 {
		t.Errorf("%v", counts)
	}
}

// anyCrush is a crush with most of the loads and some of their hours, in which something may be wrong.
func anyCrush(r *rand.Rand, l []dry.Load) dry.Crush {
	var c dry.Crush
	for i := range l {
		if r.IntN(4) > 0 {
			c.Loads = append(c.Loads, i)
		}
	}
	r.Shuffle(len(c.Loads), func(a, b int) { c.Loads[a], c.Loads[b] = c.Loads[b], c.Loads[a] })
	at := max(0, l[0].Ready-r.IntN(3))
	for range 1 + r.IntN(3) {
		from := at + max(0, r.IntN(4)-2)
		to := from + 1 + r.IntN(3)
		if to > api.MaxTime {
			break
		}
		c.Hours = append(c.Hours, [2]int{from, to})
		at = to
	}
	if r.IntN(10) == 0 && len(c.Loads) > 0 {
		c.Loads[r.IntN(len(c.Loads))] = r.IntN(len(l)+2) - 1
	}
	if r.IntN(10) == 0 && len(c.Hours) > 0 {
		c.Hours[r.IntN(len(c.Hours))][r.IntN(2)] += r.IntN(5) - 2
	}
	return c
}
