package stock

import (
	"iter"

	"oast/api"
)

// ends are the first and the last one of some pockets in a row; there is none if first is greater.
type ends struct{ first, last int }

func endsOf(span api.Span) ends {
	return ends{span.From, span.From + span.Count - 1}
}

func (e ends) count() int {
	return e.last - e.first + 1
}

func (e ends) span() api.Span {
	return api.Span{From: e.first, Count: e.count()}
}

// common returns the pockets that are in both.
func (e ends) common(o ends) ends {
	return ends{max(e.first, o.first), min(e.last, o.last)}
}

// node is the tree of the pockets between its ends. A node without halves has all of them in one state; of one with halves the state is not used. Nodes are never changed, so that versions can share them.
type node struct {
	ends
	state       Pocket
	left, right *node
}

// uniform tells whether the node has no halves.
func (n *node) uniform() bool {
	return n.left == nil
}

// halves returns the halves of a node of more than one pocket, new ones if it is uniform.
func (n *node) halves() (left, right *node) {
	if !n.uniform() {
		return n.left, n.right
	}
	middle := n.first + (n.count()-1)/2
	left = &node{ends: ends{n.first, middle}, state: n.state}
	right = &node{ends: ends{middle + 1, n.last}, state: n.state}
	return left, right
}

// at returns the state of a pocket.
func (n *node) at(pocket int) Pocket {
	for !n.uniform() {
		if pocket <= n.left.last {
			n = n.left
		} else {
			n = n.right
		}
	}
	return n.state
}

// with returns the tree in which each pocket of part is as after makes it of what it was.
func (n *node) with(part ends, after func(Pocket) Pocket) *node {
	inside := n.common(part)
	if inside.count() < 1 {
		return n
	}
	if n.uniform() && inside == n.ends {
		return &node{ends: n.ends, state: after(n.state)}
	}
	left, right := n.halves()
	left, right = left.with(part, after), right.with(part, after)
	if left.uniform() && right.uniform() && left.state == right.state {
		return &node{ends: n.ends, state: left.state}
	}
	return &node{ends: n.ends, left: left, right: right}
}

// pieces gives yield the pockets of part in order, as the nodes cut them, until yield returns false; it returns whether yield never did.
func (n *node) pieces(part ends, yield func(ends, Pocket) bool) bool {
	inside := n.common(part)
	if inside.count() < 1 {
		return true
	}
	if n.uniform() {
		return yield(inside, n.state)
	}
	return n.left.pieces(part, yield) && n.right.pieces(part, yield)
}

// runs visits the pockets of part in order, those of one state together as far as they go. Pieces have to be joined for it: two neighbours of one state may lie in different halves.
func (n *node) runs(part ends) iter.Seq2[ends, Pocket] {
	return func(yield func(ends, Pocket) bool) {
		run, state := ends{part.first, part.first - 1}, n.at(part.first)
		more := n.pieces(part, func(piece ends, p Pocket) bool {
			if p != state {
				if !yield(run, state) {
					return false
				}
				run, state = piece, p
			}
			run.last = piece.last
			return true
		})
		if more {
			yield(run, state)
		}
	}
}

// differences visits the pockets that are not the same in two trees of the same ends, in order. What the trees share is passed over, so that versions that are near each other are compared soon.
func (n *node) differences(o *node) iter.Seq[ends] {
	return func(yield func(ends) bool) {
		n.compare(o, yield)
	}
}

// compare gives yield the pieces that are not the same until yield returns false; it returns whether yield never did.
func (n *node) compare(o *node, yield func(ends) bool) bool {
	if n == o {
		return true
	}
	if n.uniform() && o.uniform() {
		return n.state == o.state || yield(n.ends)
	}
	left, right := n.halves()
	otherLeft, otherRight := o.halves()
	return left.compare(otherLeft, yield) && right.compare(otherRight, yield)
}
