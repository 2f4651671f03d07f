package dry

import (
	"cmp"
	"slices"

	"oast/api"
)

// Fits reports whether there is a plan for all loads.
func Fits(l []Load, kilns int) (bool, api.Errno) {
	if e := check(l, kilns); e != api.OK {
		return false, e
	}
	return fits(l, kilns), api.OK
}

func fits(l []Load, kilns int) bool {
	return lay(l, kilns).fill() == total(l)
}

// Plan returns a plan for all loads.
func Plan(l []Load, kilns int) ([]Turn, api.Errno) {
	if e := check(l, kilns); e != api.OK {
		return nil, e
	}
	w := lay(l, kilns)
	if w.fill() < total(l) {
		return nil, api.ErrLate
	}
	var turns []Turn
	for span := range len(w.times) - 1 {
		turns = append(turns, w.deal(span)...)
	}
	turns = join(turns)
	slices.SortFunc(turns, func(a, b Turn) int {
		return cmp.Or(cmp.Compare(a.From, b.From), cmp.Compare(a.Load, b.Load))
	})
	return turns, api.OK
}

// deal deals the hours of the loads that are dried in a span round the kilns: the next load's after the last one's, and from
// the begin of the span again where it ends. A load has at most all hours of the span, so it never comes round to itself.
func (w *network) deal(span int) []Turn {
	begin, length := w.times[span], w.length(span)
	var turns []Turn
	next := 0
	for _, i := range w.out[w.node(span)] {
		x := w.ways[i]
		if x.to == sink || x.room == 0 {
			continue
		}
		// The room of the way back to a load is what flows from it.
		load, end := x.to-ends, next+x.room
		turns = append(turns, Turn{load, begin + next, begin + min(end, length)})
		if end > length {
			turns = append(turns, Turn{load, begin, begin + end - length})
		}
		next = end % length
	}
	return turns
}

// byLoad orders turns by their loads, and those of a load by their hours.
func byLoad(a, b Turn) int {
	return cmp.Or(cmp.Compare(a.Load, b.Load), cmp.Compare(a.From, b.From))
}

// join makes one turn of those of a load that follow on each other.
func join(turns []Turn) []Turn {
	slices.SortFunc(turns, byLoad)
	var joined []Turn
	for _, t := range turns {
		if last := len(joined) - 1; last >= 0 && joined[last].Load == t.Load && joined[last].To == t.From {
			joined[last].To = t.To
		} else {
			joined = append(joined, t)
		}
	}
	return joined
}

// Proof returns a crush that proves that there is no plan: the nodes that have a way from the source in the filled network.
// All that could flow from these loads to other spans flows, and the kilns are full in these spans, and still a load lacks
// some hours.
func Proof(l []Load, kilns int) (Crush, bool) {
	if check(l, kilns) != api.OK {
		return Crush{}, false
	}
	w := lay(l, kilns)
	if w.fill() == total(l) {
		return Crush{}, false
	}
	var c Crush
	for load := range l {
		if w.steps[ends+load] >= 0 {
			c.Loads = append(c.Loads, load)
		}
	}
	for span := range len(w.times) - 1 {
		if w.steps[w.node(span)] < 0 {
			continue
		}
		if last := len(c.Hours) - 1; last >= 0 && c.Hours[last][1] == w.times[span] {
			c.Hours[last][1] = w.times[span+1]
		} else {
			c.Hours = append(c.Hours, [2]int{w.times[span], w.times[span+1]})
		}
	}
	return c, true
}

// Kilns returns the least number of kilns with which there is a plan.
func Kilns(l []Load) (int, api.Errno) {
	if e := Check(l); e != api.OK {
		return 0, e
	}
	return least(0, len(l), func(kilns int) bool { return fits(l, kilns) }), api.OK
}

// Delay returns by how much all loads must be due later, so that there is a plan. The hours of all loads are enough: each
// load can then wait for all the others.
func Delay(l []Load, kilns int) (int, api.Errno) {
	if e := check(l, kilns); e != api.OK {
		return 0, e
	}
	return least(0, total(l), func(delay int) bool { return fits(later(l, delay), kilns) }), api.OK
}

// later returns the loads with later Dues.
func later(l []Load, delay int) []Load {
	l = slices.Clone(l)
	for i := range l {
		l[i].Due += delay
	}
	return l
}
