package settle

import "slices"

// site is node 1 or 2. What it knows is read from its log, so that a crash takes nothing else away.
type site struct {
	machine
	number int
	first  []int64 // the balances without any deal
}

// leg is what a deal moves at a site.
type leg struct {
	from, to int
	amount   int64
}

// legs are what a deal moves at node 1, and at node 2.
func (d Deal) legs() [2]leg {
	return [2]leg{{d.Buyer, d.Seller, d.Money}, {d.Seller, d.Buyer, d.Goods}}
}

// unmarked is the mark of a deal without a record.
const unmarked = 0

// marks are what the log determines about each deal, at its number: the last record of a deal decides.
func (s *site) marks() [maxDeals + 1]int {
	var marks [maxDeals + 1]int
	for _, r := range s.log {
		marks[r.deal] = r.kind
	}
	return marks
}

// balances are the first ones with the legs of all done deals.
func (s *site) balances() []int64 {
	l := slices.Clone(s.first)
	for _, r := range s.log {
		if r.kind == Done {
			l[r.leg.from-1] -= r.leg.amount
			l[r.leg.to-1] += r.leg.amount
		}
	}
	return l
}

// free are the balances less what the legs of prepared deals take.
func (s *site) free() []int64 {
	l := s.balances()
	marks := s.marks()
	for _, r := range s.log {
		if r.kind == Prepared && marks[r.deal] == Prepared {
			l[r.leg.from-1] -= r.leg.amount
		}
	}
	return l
}

func (s *site) receive(m Message, w *World) {
	moved := w.deals[m.Deal-1].legs()[s.number-1]
	e := event{m.Kind, s.marks()[m.Deal]}
	switch {
	case e == event{Ask, unmarked}:
		s.vote(m.Deal, moved, w)
	case e == event{Ask, Prepared}, e == event{Ask, Done}:
		s.tell(Yes, m.Deal, w)
	case e == event{Ask, Dropped}:
		s.tell(No, m.Deal, w)
	case e == event{Do, Prepared}:
		s.save(record{Done, m.Deal, moved})
		s.tell(Ack, m.Deal, w)
	case e == event{Drop, Prepared}:
		s.save(record{Dropped, m.Deal, moved})
		s.tell(Ack, m.Deal, w)
	case e == event{Do, Done}, e == event{Drop, Dropped}, e == event{Drop, unmarked}:
		s.tell(Ack, m.Deal, w)
	}
}

// vote prepares a deal if what its leg takes is free.
func (s *site) vote(deal int, moved leg, w *World) {
	if s.free()[moved.from-1] < moved.amount {
		s.tell(No, deal, w)
		return
	}
	s.save(record{Prepared, deal, moved})
	s.tell(Yes, deal, w)
}

// tick votes once more, as long as nobody said what becomes of a deal.
func (s *site) tick(w *World) {
	for deal, mark := range s.marks() {
		if mark == Prepared {
			s.tell(Yes, deal, w)
		}
	}
}

// recall has nothing to do, as all that the site knows is in its log.
func (s *site) recall(*World) {}

// tell sends a message to the coordinator.
func (s *site) tell(kind, deal int, w *World) {
	w.send(Message{From: s.number, To: center, Kind: kind, Deal: deal})
}
