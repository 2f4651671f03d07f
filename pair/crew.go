package pair

import "container/heap"

// crew is the growers of a brewer. They are a heap: the first one is the one that the brewer likes least.
type crew struct {
	ranks   map[int]int
	quota   int
	growers []int
}

// crews returns the brewers' crews without any growers.
func (s *season) crews() []crew {
	l := make([]crew, len(s.fair.Brewers))
	for brewer := range l {
		l[brewer] = crew{ranks: s.brewers[brewer], quota: s.fair.Quotas[brewer]}
	}
	return l
}

// add takes a grower in.
func (c *crew) add(grower int) { heap.Push(c, grower) }

// drop lets the grower go that the brewer likes least.
func (c *crew) drop() int { return heap.Pop(c).(int) }

// would tells whether the brewer would take a grower, and let another one go for it if need be.
func (c *crew) would(grower int) bool {
	place, ok := c.ranks[grower]
	if !ok || c.quota == 0 {
		return false
	}
	return len(c.growers) < c.quota || place < c.ranks[c.growers[0]]
}

// Len is for the heap.
func (c *crew) Len() int { return len(c.growers) }

// Less is for the heap.
func (c *crew) Less(i, j int) bool { return c.ranks[c.growers[i]] > c.ranks[c.growers[j]] }

// Swap is for the heap.
func (c *crew) Swap(i, j int) { c.growers[i], c.growers[j] = c.growers[j], c.growers[i] }

// Push is for the heap.
func (c *crew) Push(x any) { c.growers = append(c.growers, x.(int)) }

// Pop is for the heap.
func (c *crew) Pop() any {
	last := len(c.growers) - 1
	grower := c.growers[last]
	c.growers = c.growers[:last]
	return grower
}
