package pair_test

import (
	"math/rand/v2"
	"slices"
	"testing"

	"oast/api"
	"oast/pair"
)

// The model follows the chapter's definitions word by word, and tries everything.

// place is the place of a brewer on a grower's list; none comes after all of them.
func place(f pair.Fair, grower, brewer int) int {
	if brewer < 0 {
		return len(f.Growers[grower])
	}
	return slices.Index(f.Growers[grower], brewer)
}

// mutual tells whether a grower and a brewer have one another on their lists.
func mutual(f pair.Fair, grower, brewer int) bool {
	return slices.Contains(f.Growers[grower], brewer) && slices.Contains(f.Brewers[brewer], grower)
}

// growersOf are those that a brewer has.
func growersOf(l []int, brewer int) []int {
	var have []int
	for grower, b := range l {
		if b == brewer {
			have = append(have, grower)
		}
	}
	return have
}

// isPossible is of a list with an element from -1 on, below the number of brewers, for each grower.
func isPossible(f pair.Fair, l []int) bool {
	for grower, brewer := range l {
		if brewer >= 0 && !mutual(f, grower, brewer) {
			return false
		}
	}
	for brewer, quota := range f.Quotas {
		if len(growersOf(l, brewer)) > quota {
			return false
		}
	}
	return true
}

func blocks(f pair.Fair, l []int, grower, brewer int) bool {
	if !mutual(f, grower, brewer) || place(f, grower, brewer) >= place(f, grower, l[grower]) {
		return false
	}
	have := growersOf(l, brewer)
	return len(have) < f.Quotas[brewer] || slices.ContainsFunc(have, func(other int) bool {
		return slices.Index(f.Brewers[brewer], grower) < slices.Index(f.Brewers[brewer], other)
	})
}

func blockers(f pair.Fair, l []int) []pair.Pair {
	var pairs []pair.Pair
	for grower := range f.Growers {
		for brewer := range f.Brewers {
			if blocks(f, l, grower, brewer) {
				pairs = append(pairs, pair.Pair{Grower: grower, Brewer: brewer})
			}
		}
	}
	return pairs
}

func blockless(f pair.Fair, l []int) bool { return isPossible(f, l) && len(blockers(f, l)) == 0 }

// tuples are all lists of n numbers from -1 on, below top, in their order.
func tuples(n, top int) [][]int {
	l := [][]int{{}}
	for range n {
		var longer [][]int
		for _, short := range l {
			for x := -1; x < top; x++ {
				longer = append(longer, append(slices.Clone(short), x))
			}
		}
		l = longer
	}
	return l
}

// stables are all stable allotments.
func stables(f pair.Fair) [][]int {
	var l [][]int
	for _, a := range tuples(len(f.Growers), len(f.Brewers)) {
		if blockless(f, a) {
			l = append(l, a)
		}
	}
	return l
}

// pick makes an allotment in which each grower has the best (sign 1) or the worst (sign -1) brewer that it has in these.
func pick(f pair.Fair, sign int, lists ...[]int) []int {
	l := slices.Clone(lists[0])
	for _, other := range lists {
		for grower := range l {
			if sign*place(f, grower, other[grower]) < sign*place(f, grower, l[grower]) {
				l[grower] = other[grower]
			}
		}
	}
	return l
}

// wantSameStay is P5.8 for two stable allotments.
func wantSameStay(t *testing.T, f pair.Fair, a, b []int) {
	t.Helper()
	ok := slices.Equal(growersOf(a, -1), growersOf(b, -1))
	for brewer, quota := range f.Quotas {
		has, had := growersOf(a, brewer), growersOf(b, brewer)
		ok = ok && len(has) == len(had) && (len(has) == quota || slices.Equal(has, had))
	}
	if !ok {
		t.Errorf("%v: %v and %v are stable, but others have brewers or growers", f, a, b)
	}
}

// thin takes a few numbers off the lists of either side, so that some are on a list of one who is not on theirs.
func thin(r *rand.Rand, f pair.Fair) pair.Fair {
	for range 1 + r.IntN(4) {
		lists := [][][]int{f.Growers, f.Brewers}[r.IntN(2)]
		if i := r.IntN(len(lists)); len(lists[i]) > 0 {
			at := r.IntN(len(lists[i]))
			lists[i] = slices.Delete(lists[i], at, at+1)
		}
	}
	return f
}

// oppose lets each brewer like those best who like it least, so that there are many stable allotments.
func oppose(f pair.Fair) {
	for brewer, list := range f.Brewers {
		slices.SortStableFunc(list, func(a, b int) int {
			return slices.Index(f.Growers[b], brewer) - slices.Index(f.Growers[a], brewer)
		})
	}
}

// smallFairs calls a function with many small fairs of all kinds.
func smallFairs(seed uint64, n int, try func(r *rand.Rand, f pair.Fair)) {
	r := rand.New(rand.NewPCG(seed, 5))
	for range n {
		growers, brewers := r.IntN(5), r.IntN(5)
		f := anyFair(r, growers, brewers, 3)
		if growers > 0 && brewers > 0 && r.IntN(2) == 0 {
			f.Growers, f.Brewers = fullLists(r, growers, brewers), fullLists(r, brewers, growers)
		}
		if r.IntN(3) == 0 {
			f.Quotas = slices.Repeat([]int{1 + r.IntN(2)}, brewers)
		}
		if r.IntN(3) == 0 {
			oppose(f)
		}
		if r.IntN(3) == 0 {
			f = thin(r, []pair.Fair{power(2), circle(4), crosses(2)}[r.IntN(3)])
		}
		try(r, f)
	}
	for _, f := range []pair.Fair{cross(), crosses(2), power(2), circle(3), circle(4), circle(5), quotas(power(2), 2, 1, 1, 2)} {
		try(r, f)
	}
}

// P5.3, P5.6: what the functions say of an allotment is what the definitions say, for all lists of the right length.
func TestJudgingByDefinition(t *testing.T) {
	smallFairs(1, 150, func(r *rand.Rand, f pair.Fair) {
		for _, l := range tuples(len(f.Growers), len(f.Brewers)) {
			ok := isPossible(f, l)
			wantPossible(t, f, l, ok)
			wantStable(t, f, l, blockless(f, l))
			if !ok {
				wantBlocking(t, f, l, api.ErrNone)
				wantRank(t, f, l, 0, 0, api.ErrNone)
				continue
			}
			wantBlocking(t, f, l, api.OK, blockers(f, l)...)
			growers, brewers := 0, 0
			for grower, brewer := range l {
				if brewer >= 0 {
					growers += slices.Index(f.Growers[grower], brewer)
					brewers += slices.Index(f.Brewers[brewer], grower)
				}
			}
			wantRank(t, f, l, growers, brewers, api.OK)
		}
	})
}

// P5.2, P5.4, P5.6, P5.8, P5.10: the ends, all allotments and the certain pairs by their definitions.
func TestStableByDefinition(t *testing.T) {
	smallFairs(2, 800, func(r *rand.Rand, f pair.Fair) {
		all := stables(f)
		if len(all) == 0 {
			t.Fatalf("%v has no stable allotment", f)
		}
		most := 1 + r.IntN(len(all)+1)
		wantAll(t, f, most, api.OK, all[:min(most, len(all))]...)
		wantAll(t, f, 1000, api.OK, all...)
		wantEnds(t, f, pick(f, 1, all...), pick(f, -1, all...))
		var certain []pair.Pair
		for grower, brewer := range all[0] {
			everywhere := true
			for _, l := range all {
				everywhere = everywhere && l[grower] == brewer
				wantSameStay(t, f, all[0], l)
			}
			if everywhere && brewer >= 0 {
				certain = append(certain, pair.Pair{Grower: grower, Brewer: brewer})
			}
		}
		wantCertain(t, f, api.OK, certain...)
	})
}

// P5.5: Join and Meet of all stable allotments, by their definitions; they are stable.
func TestLatticeByDefinition(t *testing.T) {
	smallFairs(3, 300, func(r *rand.Rand, f pair.Fair) {
		all := stables(f)
		for _, a := range all {
			for _, b := range all {
				join, meet := pick(f, 1, a, b), pick(f, -1, a, b)
				wantJoin(t, f, a, b, api.OK, join...)
				wantMeet(t, f, a, b, api.OK, meet...)
				wantStable(t, f, join, true)
				wantStable(t, f, meet, true)
			}
		}
	})
}

// worth is how much a member likes a slot, by the chapter's definition of lists: the first one the most.
func worth(s pair.Swap, member, slot int) int {
	list := s.Lists[member]
	at, own := slices.Index(list, slot), slices.Index(list, member)
	switch {
	case at >= 0 && (own < 0 || at <= own):
		return len(list) - at + 1
	case slot == member:
		return 1
	}
	return 0
}

// isCoalition tells whether the members can share their slots so that none of them likes it less and one likes it better.
func isCoalition(s pair.Swap, l []int, members []int) bool {
	var share func(i int, better bool) bool
	slots := slices.Clone(members)
	share = func(i int, better bool) bool {
		if i == len(members) {
			return better
		}
		member := members[i]
		for j := i; j < len(slots); j++ {
			slots[i], slots[j] = slots[j], slots[i]
			gain := worth(s, member, slots[i]) - worth(s, member, l[member])
			if gain >= 0 && share(i+1, better || gain > 0) {
				return true
			}
			slots[i], slots[j] = slots[j], slots[i]
		}
		return false
	}
	return share(0, false)
}

// coalitionExists tries all sets of members.
func coalitionExists(s pair.Swap, l []int) bool {
	for set := range 1 << len(l) {
		var members []int
		for member := range l {
			if set>>member&1 == 1 {
				members = append(members, member)
			}
		}
		if isCoalition(s, l, members) {
			return true
		}
	}
	return false
}

// outcomes are all outcomes of n members.
func outcomes(n int) [][]int {
	return slices.DeleteFunc(orders(n), func(l []int) bool { return len(l) < n })
}

// P5.7, P5.10: of all outcomes, there is just one against which no coalition does better: it is the core outcome.
func TestCoreByDefinition(t *testing.T) {
	r := rand.New(rand.NewPCG(4, 5))
	for range 250 {
		n := r.IntN(6)
		s := pair.Swap{Lists: anyLists(r, n, n)}
		core, e := pair.Core(s)
		if e != api.OK {
			t.Fatalf("Core(%v): error %d", s, e)
		}
		for _, l := range outcomes(n) {
			better := coalitionExists(s, l)
			wantBetter(t, s, l, better)
			if better == slices.Equal(l, core) {
				t.Errorf("Core(%v): %v, but a coalition does better than %v: %v", s, core, l, better)
			}
		}
	}
}

// P5.7: outcomes of more members, up to twelve.
func TestBetterByDefinition(t *testing.T) {
	r := rand.New(rand.NewPCG(6, 5))
	for range 150 {
		n := 6 + r.IntN(7)
		s := pair.Swap{Lists: anyLists(r, n, n)}
		core, _ := pair.Core(s)
		wantBetter(t, s, core, false)
		near := slices.Clone(core)
		i, j := r.IntN(n), r.IntN(n)
		near[i], near[j] = near[j], near[i]
		wantBetter(t, s, near, i != j)
		any := r.Perm(n)
		wantBetter(t, s, any, !slices.Equal(any, core))
	}
}
