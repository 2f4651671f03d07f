package pair

import (
	"slices"

	"oast/api"
)

// ranks are the places on the lists of one side: of each list, by who stands on it.
type ranks [api.MaxSide]map[int]int

// season is a valid fair with the ranks on both sides.
type season struct {
	fair             Fair
	growers, brewers ranks
}

// open returns the season of a fair, if this is valid.
func open(f Fair) (*season, api.Errno) {
	if e := Check(f); e != api.OK {
		return nil, e
	}
	return &season{f, rank(f.Growers), rank(f.Brewers)}, api.OK
}

func rank(lists [][]int) ranks {
	var r ranks
	for i, list := range lists {
		r[i] = make(map[int]int, len(list))
		for place, x := range list {
			r[i][x] = place
		}
	}
	return r
}

// judge returns the season of a fair, if this is valid and the lists are allotments as they must be.
func judge(f Fair, must func(*season, []int) bool, lists ...[]int) (*season, api.Errno) {
	s, e := open(f)
	if e != api.OK {
		return nil, e
	}
	for _, l := range lists {
		if len(l) != len(f.Growers) {
			return nil, api.ErrShape
		}
	}
	for _, l := range lists {
		if !must(s, l) {
			return nil, api.ErrNone
		}
	}
	return s, api.OK
}

// places returns the brewer's place on the grower's list, and the grower's on the brewer's, if each is on the other's.
func (s *season) places(grower, brewer int) (atGrower, atBrewer int, ok bool) {
	atGrower, ok = s.growers[grower][brewer]
	if !ok {
		return 0, 0, false
	}
	atBrewer, ok = s.brewers[brewer][grower]
	return atGrower, atBrewer, ok
}

func (s *season) possible(l []int) bool {
	counts := make([]int, len(s.fair.Quotas))
	for grower, brewer := range l {
		if brewer == none {
			continue
		}
		if _, _, ok := s.places(grower, brewer); !ok || counts[brewer] == s.fair.Quotas[brewer] {
			return false
		}
		counts[brewer]++
	}
	return true
}

func (s *season) stable(l []int) bool {
	return s.possible(l) && len(s.blocking(l)) == 0
}

// blocking returns the pairs that block a possible allotment.
func (s *season) blocking(l []int) []Pair {
	crews := s.crews()
	for grower, brewer := range l {
		if brewer != none {
			crews[brewer].add(grower)
		}
	}
	var pairs []Pair
	for grower, brewer := range l {
		better := s.fair.Growers[grower]
		if brewer != none {
			better = better[:s.growers[grower][brewer]]
		}
		for _, b := range slices.Sorted(slices.Values(better)) {
			if crews[b].would(grower) {
				pairs = append(pairs, Pair{grower, b})
			}
		}
	}
	return pairs
}

// ordered returns two brewers (or none) in the order in which a grower likes them.
func (s *season) ordered(grower, a, b int) (better, worse int) {
	if a == none || b != none && s.growers[grower][b] < s.growers[grower][a] {
		return b, a
	}
	return a, b
}
