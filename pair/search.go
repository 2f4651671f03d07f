package pair

import (
	"iter"
	"slices"

	"oast/api"
)

// window is what is asked of stable allotments: that each grower has a brewer of the places from first to before last on
// its list. Then each brewer before first must have its quota of growers that it likes better than this one, or the two
// would block: so only growers of the places before limit on a brewer's list can have it.
type window struct {
	first, last, limit [api.MaxSide]int
}

// whole is the window of all stable allotments. In it a grower may have no brewer too.
func (s *season) whole() window {
	var w window
	for grower, list := range s.fair.Growers {
		w.last[grower] = len(list)
	}
	for brewer, list := range s.fair.Brewers {
		w.limit[brewer] = len(list)
	}
	return w
}

// within is the window in which the grower has one of the places from first to before last, too. They lie in the window.
func (s *season) within(w window, grower, first, last int) window {
	for _, brewer := range s.fair.Growers[grower][w.first[grower]:first] {
		if place, ok := s.brewers[brewer][grower]; ok {
			w.limit[brewer] = min(w.limit[brewer], place)
		}
	}
	w.first[grower], w.last[grower] = first, last
	return w
}

// admits tells whether a grower and a brewer can be a pair.
func (s *season) admits(w window, grower, brewer int) bool {
	atGrower, atBrewer, ok := s.places(grower, brewer)
	return ok && w.first[grower] <= atGrower && atGrower < w.last[grower] && atBrewer < w.limit[brewer]
}

// best returns the stable allotment that is best for each grower, of those in a window that has any.
func (s *season) best(w window) []int {
	l := make([]int, len(s.fair.Growers))
	crews := s.crews()
	var waiting []int
	for grower := range l {
		l[grower] = none
		waiting = append(waiting, grower)
	}
	next := w.first
	for len(waiting) > 0 {
		top := len(waiting) - 1
		grower := waiting[top]
		if next[grower] == w.last[grower] {
			waiting = waiting[:top]
			continue
		}
		brewer := s.fair.Growers[grower][next[grower]]
		next[grower]++
		if !s.admits(w, grower, brewer) || !crews[brewer].would(grower) {
			continue
		}
		waiting = waiting[:top]
		if len(crews[brewer].growers) == s.fair.Quotas[brewer] {
			out := crews[brewer].drop()
			l[out] = none
			waiting = append(waiting, out)
		}
		crews[brewer].add(grower)
		l[grower] = brewer
	}
	return l
}

// worst returns the stable allotment that is worst for each grower, of those in a window that has any. Here the brewers
// that have places left wait.
func (s *season) worst(w window) []int {
	l := slices.Repeat([]int{none}, len(s.fair.Growers))
	left := slices.Clone(s.fair.Quotas)
	var waiting []int
	for brewer := range left {
		waiting = append(waiting, brewer)
	}
	var next [api.MaxSide]int
	for len(waiting) > 0 {
		top := len(waiting) - 1
		brewer := waiting[top]
		if left[brewer] == 0 || next[brewer] == w.limit[brewer] {
			waiting = waiting[:top]
			continue
		}
		grower := s.fair.Brewers[brewer][next[brewer]]
		next[brewer]++
		if !s.admits(w, grower, brewer) {
			continue
		}
		if own := l[grower]; own != none {
			if s.growers[grower][own] < s.growers[grower][brewer] {
				continue
			}
			left[own]++
			waiting = append(waiting, own)
		}
		left[brewer]--
		l[grower] = brewer
	}
	return l
}

// all are the stable allotments, in order.
func (s *season) all() iter.Seq[[]int] {
	return func(yield func([]int) bool) { s.search(s.whole(), yield) }
}

// search yields the stable allotments of a window that has any, until it is told to stop.
func (s *season) search(w window, yield func([]int) bool) bool {
	best, worst := s.best(w), s.worst(w)
	grower := 0
	for grower < len(best) && best[grower] == worst[grower] {
		grower++
	}
	if grower == len(best) {
		return yield(best)
	}
	for _, brewer := range s.choices(w, grower, best[grower], worst[grower]) {
		place := s.growers[grower][brewer]
		if !s.search(s.within(w, grower, place, place+1), yield) {
			return false
		}
	}
	return true
}

// choices returns the brewers, rising, that the grower has in the stable allotments of a window, from the best one to the
// worst one.
func (s *season) choices(w window, grower, best, worst int) []int {
	l := []int{best}
	for best != worst {
		w = s.within(w, grower, s.growers[grower][best]+1, w.last[grower])
		best = s.best(w)[grower]
		l = append(l, best)
	}
	slices.Sort(l)
	return l
}
