package dry

import (
	"cmp"
	"slices"

	"oast/api"
)

// rota is the plan for some short loads that is made hour by hour, the earliest due first: if there is a plan for them, it is
// one. It says which loads are dried in each hour.
type rota struct {
	loads []Load
	kilns int
	crews map[int][]int
}

// compare orders loads as they are dried.
func (r rota) compare(a, b int) int {
	return cmp.Or(cmp.Compare(r.loads[a].Due, r.loads[b].Due), cmp.Compare(a, b))
}

// exchange is the place of a load in its hour, and the load that comes there.
type exchange struct {
	place *int
	load  int
}

// add adds a load if it fits. It comes in the hour in which it is ready; while the kilns are full, the load that would be
// dried last of those of the hour and this one moves on to the next hour, where it is the one that comes.
func (r rota) add(load int) bool {
	var path []exchange
	hour := r.loads[load].Ready
following:
	for {
		crew := r.crews[hour]
		switch {
		case r.loads[load].Due <= hour:
			return false
		case len(crew) < r.kilns:
			break following
		}
		last := 0
		for i := range crew {
			if r.compare(crew[i], crew[last]) > 0 {
				last = i
			}
		}
		if r.compare(load, crew[last]) < 0 {
			path = append(path, exchange{&crew[last], load})
			load = crew[last]
		}
		hour++
	}
	for _, x := range path {
		*x.place = x.load
	}
	r.crews[hour] = append(r.crews[hour], load)
	return true
}

// isShort reports whether all Lengths are 1.
func isShort(l []Load) bool {
	return !slices.ContainsFunc(l, func(x Load) bool { return x.Length != 1 })
}

// checkShort examines whether the list is short too.
func checkShort(l []Load, kilns int) api.Errno {
	if e := check(l, kilns); e != api.OK {
		return e
	}
	if !isShort(l) {
		return api.ErrShape
	}
	return api.OK
}

// Early returns the hour in which each load is dried, the earliest due first.
func Early(l []Load, kilns int) ([]int, api.Errno) {
	if e := checkShort(l, kilns); e != api.OK {
		return nil, e
	}
	r := rota{l, kilns, map[int][]int{}}
	for load := range l {
		if !r.add(load) {
			return nil, api.ErrLate
		}
	}
	hours := make([]int, len(l))
	for hour, crew := range r.crews {
		for _, load := range crew {
			hours[load] = hour
		}
	}
	return hours, api.OK
}

// Best returns the best set of short loads and its worth. Whatever loads are taken, another set that fits and has more of
// them has one that fits beside them; so it is best to take each load that fits, those of the greatest Worth first.
func Best(l []Load, kilns int) (set []int, worth int, e api.Errno) {
	if e := checkShort(l, kilns); e != api.OK {
		return nil, 0, e
	}
	order := make([]int, len(l))
	for load := range order {
		order[load] = load
	}
	slices.SortStableFunc(order, func(a, b int) int { return cmp.Compare(l[b].Worth, l[a].Worth) })
	r := rota{l, kilns, map[int][]int{}}
	for _, load := range order {
		if r.add(load) {
			set = append(set, load)
			worth += l[load].Worth
		}
	}
	slices.Sort(set)
	return set, worth, api.OK
}
