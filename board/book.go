package board

import (
	"container/heap"
	"iter"
	"slices"
)

// level is the queue of the orders of one price. The price of waiting orders is their stop.
type level struct {
	price int64
	shown int64 // of all its orders together
	queue list[*entry]
	at    int // its place in the heap of its book
}

// book is the levels of a side, none of which is empty.
type book struct {
	levels []*level // a heap
	prices map[int64]*level
	better func(a, b int64) bool // whether price a comes before price b
}

func newBook(better func(a, b int64) bool) *book {
	return &book{prices: map[int64]*level{}, better: better}
}

// Len, Less, Swap, Push and Pop are what package heap asks for.
func (k *book) Len() int { return len(k.levels) }

func (k *book) Less(i, j int) bool { return k.better(k.levels[i].price, k.levels[j].price) }

func (k *book) Swap(i, j int) {
	k.levels[i], k.levels[j] = k.levels[j], k.levels[i]
	k.levels[i].at, k.levels[j].at = i, j
}

func (k *book) Push(x any) {
	added := x.(*level)
	added.at = len(k.levels)
	k.levels = append(k.levels, added)
}

func (k *book) Pop() any {
	end := len(k.levels) - 1
	x := k.levels[end]
	k.levels[end] = nil
	k.levels = k.levels[:end]
	return x
}

// best returns the level of the best price, or nil.
func (k *book) best() *level {
	if len(k.levels) == 0 {
		return nil
	}
	return k.levels[0]
}

// ranked returns the levels, the best one first.
func (k *book) ranked() []*level {
	l := slices.Clone(k.levels)
	slices.SortFunc(l, func(x, y *level) int {
		if k.better(x.price, y.price) {
			return -1
		}
		return 1
	})
	return l
}

// upTo yields the levels to which limit is not better, in no order that means anything.
func (k *book) upTo(limit int64) iter.Seq[*level] {
	return func(yield func(*level) bool) { k.visit(0, limit, yield) }
}

// visit yields those at and below a place of the heap. Below a level that is too far, all are.
func (k *book) visit(at int, limit int64, yield func(*level) bool) bool {
	if at >= len(k.levels) || k.better(limit, k.levels[at].price) {
		return true
	}
	return yield(k.levels[at]) && k.visit(2*at+1, limit, yield) && k.visit(2*at+2, limit, yield)
}

// add puts an order at the end of the queue of a price.
func (k *book) add(x *entry, price int64) {
	at := k.prices[price]
	if at == nil {
		at = &level{price: price}
		k.prices[price] = at
		heap.Push(k, at)
	}
	x.level, x.place = at, &link[*entry]{value: x}
	at.queue.push(x.place)
	at.shown += x.shown
}

// remove takes an order out of its queue.
func (k *book) remove(x *entry) {
	at := x.level
	at.queue.remove(x.place)
	at.shown -= x.shown
	if at.queue.count == 0 {
		delete(k.prices, at.price)
		heap.Remove(k, at.at)
	}
}
