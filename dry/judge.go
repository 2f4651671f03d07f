package dry

import (
	"slices"

	"oast/api"
)

// IsPlan reports whether turns are a plan for all loads.
func IsPlan(l []Load, kilns int, p []Turn) bool {
	if check(l, kilns) != api.OK {
		return false
	}
	for _, t := range p {
		if t.Load < 0 || t.Load >= len(l) || t.From < l[t.Load].Ready || t.From >= t.To || t.To > l[t.Load].Due {
			return false
		}
	}
	return isDrying(l, p) && isRoom(p, kilns)
}

// isDrying reports whether the turns of each load are disjoint and as long as it needs.
func isDrying(l []Load, p []Turn) bool {
	p = slices.Clone(p)
	slices.SortFunc(p, byLoad)
	dried := make([]int, len(l))
	for i, t := range p {
		if i > 0 && p[i-1].Load == t.Load && p[i-1].To > t.From {
			return false
		}
		dried[t.Load] += t.To - t.From
	}
	for load, x := range l {
		if dried[load] != x.Length {
			return false
		}
	}
	return true
}

// isRoom reports whether the kilns are enough for the turns: whenever one begins, all but so many others that had begun have
// ended.
func isRoom(p []Turn, kilns int) bool {
	var begins, ends []int
	for _, t := range p {
		begins, ends = append(begins, t.From), append(ends, t.To)
	}
	slices.Sort(begins)
	slices.Sort(ends)
	for i := kilns; i < len(begins); i++ {
		if ends[i-kilns] > begins[i] {
			return false
		}
	}
	return true
}

// Proves reports whether a crush proves that there is no plan for all loads.
func Proves(l []Load, kilns int, c Crush) bool {
	if check(l, kilns) != api.OK || !areNumbers(c.Loads, len(l)) || !areSpans(c.Hours) {
		return false
	}
	sum := sums(c.Hours)
	hours := 0
	for _, load := range c.Loads {
		x := l[load]
		inside := before(c.Hours, sum, x.Due) - before(c.Hours, sum, x.Ready)
		outside := x.Due - x.Ready - inside
		hours += max(0, x.Length-outside)
	}
	return hours > kilns*sum[len(c.Hours)]
}

// areNumbers reports whether all numbers are from 0 to n - 1, and none is there twice.
func areNumbers(l []int, n int) bool {
	seen := make([]bool, n)
	for _, x := range l {
		if x < 0 || x >= n || seen[x] {
			return false
		}
		seen[x] = true
	}
	return true
}

// areSpans reports whether spans are within all time, not empty, disjoint and rising.
func areSpans(hours [][2]int) bool {
	end := 0
	for _, x := range hours {
		if x[0] < end || x[0] >= x[1] {
			return false
		}
		end = x[1]
	}
	return end <= api.MaxTime
}

// sums returns how many hours the first i spans have together, for each i.
func sums(hours [][2]int) []int {
	sum := []int{0}
	for i, x := range hours {
		sum = append(sum, sum[i]+x[1]-x[0])
	}
	return sum
}

// before returns how many hours of the spans are before a time.
func before(hours [][2]int, sum []int, time int) int {
	i := least(0, len(hours), func(i int) bool { return hours[i][1] > time })
	if i < len(hours) && hours[i][0] < time {
		return sum[i] + time - hours[i][0]
	}
	return sum[i]
}
