package net

import (
	"container/heap"

	"oast/api"
)

// claim is what a party has to pay, or to get.
type claim struct {
	party  int
	amount int64
}

// claims are claims in the order of a heap: first the greatest one, of several that of the least party.
type claims []claim

// Len is for the heap.
func (l claims) Len() int { return len(l) }

// Less is for the heap.
func (l claims) Less(i, j int) bool {
	if l[i].amount != l[j].amount {
		return l[i].amount > l[j].amount
	}
	return l[i].party < l[j].party
}

// Swap is for the heap.
func (l claims) Swap(i, j int) { l[i], l[j] = l[j], l[i] }

// first is the claim that comes first.
func (l claims) first() *claim { return &l[0] }

// side is all claims of a kind: to pay, or to get.
type side struct {
	claims
}

// Push is for the heap.
func (s *side) Push(x any) { s.claims = append(s.claims, x.(claim)) }

// Pop is for the heap.
func (s *side) Pop() any {
	last := s.Len() - 1
	c := s.claims[last]
	s.claims = s.claims[:last]
	return c
}

// queue is a heap that shows which claim comes first.
type queue interface {
	heap.Interface
	first() *claim
}

// serve takes an amount off the claim that comes first.
func serve(q queue, amount int64) {
	c := q.first()
	c.amount -= amount
	if c.amount == 0 {
		heap.Pop(q)
	} else {
		heap.Fix(q, 0)
	}
}

// Settle returns transfers that settle the table.
func Settle(debts [][]int64) ([]Transfer, api.Errno) {
	if e := Check(debts); e != api.OK {
		return nil, e
	}
	var payers, getters side
	for party, position := range positions(debts) {
		if position < 0 {
			heap.Push(&payers, claim{party, -position})
		}
		if position > 0 {
			heap.Push(&getters, claim{party, position})
		}
	}
	var l []Transfer
	for payers.Len() > 0 {
		from, to := payers.first(), getters.first()
		t := Transfer{from.party, to.party, min(from.amount, to.amount)}
		serve(&payers, t.Amount)
		serve(&getters, t.Amount)
		l = append(l, t)
	}
	return l, api.OK
}
