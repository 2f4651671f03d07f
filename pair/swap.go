package pair

import (
	"slices"

	"oast/api"
)

// maxTried is the greatest number of members among whom Better looks for a coalition.
const maxTried = 12

// CheckSwap tells whether the swap is valid.
func CheckSwap(s Swap) api.Errno {
	if len(s.Lists) > api.MaxSide {
		return api.ErrLong
	}
	if !areLists(s.Lists, len(s.Lists)) {
		return api.ErrList
	}
	return api.OK
}

// Core returns the outcome against which no coalition does better.
func Core(s Swap) ([]int, api.Errno) {
	if e := CheckSwap(s); e != api.OK {
		return nil, e
	}
	slots := make([]int, len(s.Lists))
	for _, ring := range rings(wishes(s)) {
		for i, member := range ring {
			slots[member] = ring[(i+1)%len(ring)]
		}
	}
	return slots, api.OK
}

// Rings returns the rings in which the members pass on their slots in the core outcome.
func Rings(s Swap) ([][]int, api.Errno) {
	if e := CheckSwap(s); e != api.OK {
		return nil, e
	}
	l := rings(wishes(s))
	slices.SortFunc(l, slices.Compare[[]int])
	return l, api.OK
}

// Better returns a coalition that does better than an outcome.
func Better(s Swap, l []int) ([]int, bool) {
	if CheckSwap(s) != api.OK || len(l) > maxTried || len(l) != len(s.Lists) || !areLists([][]int{l}, len(l)) {
		return nil, false
	}
	t := trial{wishes(s), l}
	for member := range l {
		for slot := range l {
			if t.likes(member, slot) >= t.likes(member, l[member]) {
				continue
			}
			if coalition := t.chain(slot, member); len(coalition) > 0 {
				slices.Sort(coalition)
				return coalition, true
			}
		}
	}
	return nil, false
}

// wishes returns each member's list up to its own slot, and this as its end.
func wishes(s Swap) [][]int {
	lists := make([][]int, len(s.Lists))
	for member, list := range s.Lists {
		if own := slices.Index(list, member); own >= 0 {
			list = list[:own]
		}
		lists[member] = append(slices.Clone(list), member)
	}
	return lists
}

// rings returns the rings of the core outcome, each from its least member on. Nobody whose ring is closed could like a
// slot of a later ring better, so these go on among those that are left.
func rings(lists [][]int) [][]int {
	var found [][]int
	gone := make([]bool, len(lists))
	for start := range lists {
		for !gone[start] {
			ring := follow(lists, gone, start)
			for _, member := range ring {
				gone[member] = true
			}
			least := slices.Index(ring, slices.Min(ring))
			found = append(found, slices.Concat(ring[least:], ring[:least]))
		}
	}
	return found
}

// follow goes from a member to the one whose slot it likes best of those that are left, and on from there, until it comes
// to a member again: there a ring begins.
func follow(lists [][]int, gone []bool, member int) []int {
	var trail []int
	isLeft := func(slot int) bool { return !gone[slot] }
follow:
	for {
		for i, met := range trail {
			if met == member {
				trail = trail[i:]
				break follow
			}
		}
		trail = append(trail, member)
		member = lists[member][slices.IndexFunc(lists[member], isLeft)]
	}
	return trail
}

// trial is an outcome with the members' lists.
type trial struct {
	lists [][]int
	slots []int
}

// likes returns the place of a slot among those that a member likes, less than which all others are alike.
func (t trial) likes(member, slot int) int {
	list := t.lists[member]
	if place := slices.Index(list, slot); place >= 0 {
		return place
	}
	return len(list)
}

// chain returns members that lead from one to another, each of whom likes the slot of the next one no less than what it
// has in the outcome; none if there are no such.
func (t trial) chain(from, to int) []int {
	before := slices.Repeat([]int{none}, len(t.slots))
	before[from] = from
	found := []int{from}
	for i := 0; i < len(found); i++ {
		member := found[i]
		for slot, earlier := range before {
			if earlier == none && t.likes(member, slot) <= t.likes(member, t.slots[member]) {
				before[slot] = member
				found = append(found, slot)
			}
		}
	}
	if before[to] == none {
		return nil
	}
	l := []int{from}
	for member := to; member != from; member = before[member] {
		l = append(l, member)
	}
	return l
}
