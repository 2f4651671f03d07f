package dry

import (
	"math"
	"slices"
)

// The nodes of a network: the two ends of what flows in it, then the loads, then the spans.
const (
	source = iota
	sink
	ends
)

// way leads to a node: so many more hours can flow along it.
type way struct {
	to, room int
}

// network shows how the hours that loads need can be given to spans of hours: they flow from the source to the loads, from
// each load to the spans in which it can be dried, to each at most its length, and from the spans to the sink, from each at
// most its length in each kiln. All loads can be dried if all their hours arrive, as deal shows.
//
// The way at an even index and the one after it share their room: what flows along one can flow back along the other.
type network struct {
	loads []Load
	times []int // the times that occur, rising: a span is between each and the next
	ways  []way
	out   [][]int // the indexes of the ways that leave each node
	steps []int   // from the source to each node, where there is room; -1 if there is no such way
}

// lay returns the network of loads and kilns with nothing in it.
func lay(l []Load, kilns int) *network {
	w := &network{loads: l}
	for _, x := range l {
		w.times = append(w.times, x.Ready, x.Due)
	}
	slices.Sort(w.times)
	w.times = slices.Compact(w.times)
	w.out = make([][]int, ends+len(l)+len(w.times))
	number := map[int]int{}
	for span, begin := range w.times {
		number[begin] = span
	}
	for load, x := range l {
		w.add(source, ends+load, x.Length)
		first, end := number[x.Ready], number[x.Due]
		for span := first; span < end; span++ {
			w.add(ends+load, w.node(span), w.length(span))
		}
	}
	for span := range len(w.times) - 1 {
		w.add(w.node(span), sink, kilns*w.length(span))
	}
	return w
}

// node is the node of a span.
func (w *network) node(span int) int { return ends + len(w.loads) + span }

// length is how many hours a span has.
func (w *network) length(span int) int { return w.times[span+1] - w.times[span] }

// add adds a way and the way back.
func (w *network) add(from, to, room int) {
	w.out[from] = append(w.out[from], len(w.ways))
	w.out[to] = append(w.out[to], len(w.ways)+1)
	w.ways = append(w.ways, way{to, room}, way{from, 0})
}

// fill sends as much as can flow, and returns how much that is.
func (w *network) fill() int {
	sum := 0
	for {
		w.look()
		if w.steps[sink] < 0 {
			return sum
		}
		sum += w.send()
	}
}

// look counts the steps to each node.
func (w *network) look() {
	w.steps = make([]int, len(w.out))
	for node := range w.steps {
		w.steps[node] = -1
	}
	w.steps[source] = 0
	reached := []int{source}
	for i := 0; i < len(reached); i++ {
		for _, x := range w.out[reached[i]] {
			if to := w.ways[x].to; w.ways[x].room > 0 && w.steps[to] < 0 {
				w.steps[to] = w.steps[reached[i]] + 1
				reached = append(reached, to)
			}
		}
	}
}

// send sends what can flow along ways that go a step further each, and returns how much that is. What is then left has to
// take more steps to the sink; so there are no more rounds than nodes.
func (w *network) send() int {
	tried := make([]int, len(w.out))
	var search func(node, most int) int
	search = func(node, most int) int {
		if node == sink {
			return most
		}
		sum := 0
		for tried[node] < len(w.out[node]) {
			i := w.out[node][tried[node]]
			if x := w.ways[i]; x.room > 0 && w.steps[x.to] == w.steps[node]+1 {
				sent := search(x.to, min(x.room, most-sum))
				w.ways[i].room -= sent
				w.ways[i^1].room += sent
				sum += sent
			}
			// A way by which all was sent may have room for more.
			if sum == most {
				break
			}
			tried[node]++
		}
		return sum
	}
	return search(source, math.MaxInt)
}
