package bid

import (
	"math/bits"
	"slices"

	"oast/api"
)

// totals holds the greatest total of each set of lots: element s is that of the lots in s alone.
type totals [1 << api.MaxGoods]int64

// all is the set of all lots.
func (a Auction) all() uint32 { return 1<<a.Goods - 1 }

// takes tells whether each of the offers is a valid one of this auction.
func (a Auction) takes(offers []Offer) bool {
	for _, o := range offers {
		if o.Lots == 0 || o.Lots > a.all() || !isWorth(o.Worth) {
			return false
		}
	}
	return true
}

// checkBidder tells whether the auction is valid and has the bidder.
func (a Auction) checkBidder(bidder int) api.Errno {
	if e := Check(a); e != api.OK {
		return e
	}
	if bidder < 0 || bidder >= len(a.Bidders) {
		return api.ErrNone
	}
	return api.OK
}

// given returns what a bidder gets by a choice.
func (a Auction) given(bidder, choice int) (lots uint32, worth int64) {
	if choice == none {
		return 0, 0
	}
	o := a.Bidders[bidder][choice]
	return o.Lots, o.Worth
}

// unsold returns the sum of the reserves of a set.
func (a Auction) unsold(lots uint32) int64 {
	var total int64
	for _, lot := range members(uint64(lots)) {
		total += a.Reserve[lot]
	}
	return total
}

// reserves returns the totals without any bidder.
func (a Auction) reserves() totals {
	var t totals
	for lot, reserve := range a.Reserve {
		for set := range 1 << lot {
			t[1<<lot|set] = t[set] + reserve
		}
	}
	return t
}

// with returns the totals with one more bidder.
func (t *totals) with(all uint32, offers []Offer) totals {
	next := *t
	for _, o := range offers {
		others := all &^ o.Lots
		for free, more := others, true; more; free = (free - 1) & others {
			next[free|o.Lots] = max(next[free|o.Lots], t[free]+o.Worth)
			more = free != 0
		}
	}
	return next
}

// tables returns the totals with all bidders, with those from 1 on, and so on to those with none. Bidders of out are left out.
func (a Auction) tables(out ...int) []totals {
	l := make([]totals, len(a.Bidders)+1)
	l[len(a.Bidders)] = a.reserves()
	for bidder := len(a.Bidders) - 1; bidder >= 0; bidder-- {
		if slices.Contains(out, bidder) {
			l[bidder] = l[bidder+1]
		} else {
			l[bidder] = l[bidder+1].with(a.all(), a.Bidders[bidder])
		}
	}
	return l
}

// greatest returns the greatest total, with the bidders of out left out.
func (a Auction) greatest(out ...int) int64 {
	return a.tables(out...)[0][a.all()]
}

// solve returns the best award with its payments.
func (a Auction) solve() Award {
	w := a.best()
	for bidder, choice := range w.Choices {
		if choice != none {
			others := w.Total - a.Bidders[bidder][choice].Worth
			w.Pays[bidder] = a.greatest(bidder) - others
		}
	}
	return w
}

// best returns the best award, with payments of 0.
func (a Auction) best() Award {
	tables := a.tables()
	free := a.all()
	w := Award{Total: tables[0][free], Pays: make([]int64, len(a.Bidders))}
	for bidder := range a.Bidders {
		choice := none
		if tables[bidder][free] != tables[bidder+1][free] {
			choice = slices.IndexFunc(a.Bidders[bidder], func(o Offer) bool {
				return o.Lots&^free == 0 && o.Worth+tables[bidder+1][free&^o.Lots] == tables[bidder][free]
			})
		}
		w.Choices = append(w.Choices, choice)
		lots, _ := a.given(bidder, choice)
		free &^= lots
	}
	return w
}

// shares returns what each bidder and the seller have by an award.
func (a Auction) shares(w Award) (bidders []int64, seller int64) {
	free := a.all()
	for bidder, choice := range w.Choices {
		lots, worth := a.given(bidder, choice)
		free &^= lots
		bidders = append(bidders, worth-w.Pays[bidder])
	}
	return bidders, sum(w.Pays) + a.unsold(free)
}

func isWorth(x int64) bool { return x >= 0 && x <= api.MaxWorth }

func areWorths(l []int64) bool {
	for _, x := range l {
		if !isWorth(x) {
			return false
		}
	}
	return true
}

func sum(l []int64) int64 {
	var total int64
	for _, x := range l {
		total += x
	}
	return total
}

// members returns the numbers of a set, rising.
func members(set uint64) []int {
	var l []int
	for ; set != 0; set &= set - 1 {
		l = append(l, bits.TrailingZeros64(set))
	}
	return l
}
