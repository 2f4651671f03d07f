package bid

import "math/bits"

// choice is what the buyers of a hall choose at prices. It consists of arrays, so that it is copied and compared as a value.
type choice struct {
	prices [most]int64
	gain   [most]int64  // of each buyer, by a lot that it wants: 0 if no worth is greater than its price
	wanted [most]uint64 // the lots with which each buyer is content
	asked  [most]uint64 // the buyers that are content with each lot
	eager  uint64       // the buyers that are not content with no lot
	dear   uint64       // the lots with a price greater than 0
}

// choose returns the choice at prices.
func choose(worth [][]int64, prices []int64) choice {
	var c choice
	for lot, price := range prices {
		c.prices[lot] = price
		if price > 0 {
			c.dear |= 1 << lot
		}
	}
	for buyer, row := range worth {
		c.gain[buyer], c.wanted[buyer] = favourites(row, prices)
		if c.gain[buyer] > 0 {
			c.eager |= 1 << buyer
		}
		for _, lot := range members(c.wanted[buyer]) {
			c.asked[lot] |= 1 << buyer
		}
	}
	return c
}

// favourites returns the lots with which a buyer is content, and what it gains by one of them.
func favourites(row, prices []int64) (gain int64, lots uint64) {
	for lot, worth := range row {
		more := worth - prices[lot]
		if more > gain {
			gain, lots = more, 0
		}
		if more == gain {
			lots |= 1 << lot
		}
	}
	return gain, lots
}

// crowd returns the eager buyers that want lots of a set only, of which there are fewer, and that set; nothing if there is no crowd.
func (c *choice) crowd() (buyers, lots uint64) {
	m := match{rows: c.wanted}
	left := m.place(c.eager)
	buyers = left
	for _, lot := range members(m.stuck) {
		buyers |= 1 << m.owner[lot]
	}
	return buyers, m.stuck
}

// step returns the least rise of the lots' prices by which a buyer of the crowd comes to want another lot too, or no lot.
func (c *choice) step(worth [][]int64, buyers, lots uint64) int64 {
	var least int64
	for i, buyer := range members(buyers) {
		var next int64
		for lot, w := range worth[buyer] {
			if !has(lots, lot) {
				next = max(next, w-c.prices[lot])
			}
		}
		if rise := c.gain[buyer] - next; i == 0 || rise < least {
			least = rise
		}
	}
	return least
}

// allot returns the first allotment that is a balance with the prices, which are those of one.
func (c *choice) allot(buyers int) []int {
	lots := make([]int, buyers)
	left, free := ^uint64(0), ^uint64(0)
	for buyer := range lots {
		lots[buyer] = none
		left &^= 1 << buyer
		if !has(c.eager, buyer) && c.serves(left, free) {
			continue
		}
		for _, lot := range members(c.wanted[buyer] & free) {
			if c.serves(left, free&^(1<<lot)) {
				lots[buyer] = lot
				free &^= 1 << lot
				break
			}
		}
	}
	return lots
}

// serves tells whether the buyers and lots that are left have an allotment in which each eager buyer gets a lot, and each lot with a price is given.
// There is one if there is one for these buyers and another one for these lots: both together contain one that is both (Mendelsohn and Dulmage).
func (c *choice) serves(buyers, lots uint64) bool {
	m := match{rows: c.wanted, closed: ^lots}
	if m.place(c.eager&buyers) != 0 {
		return false
	}
	m = match{rows: c.asked, closed: ^buyers}
	return m.place(c.dear&lots) == 0
}

// match gives rows different columns of those that they want.
type match struct {
	rows   [most]uint64
	owner  [most]int // the row of each column of taken
	taken  uint64
	closed uint64 // columns that cannot be given
	stuck  uint64 // taken columns from which no change of owners leads to a free one: none ever will
}

// place gives as many as possible of the rows a column, and returns the others. Their columns are stuck then.
func (m *match) place(rows uint64) uint64 {
	var left uint64
	for _, row := range members(rows) {
		seen := m.stuck | m.closed
		if !m.find(row, &seen) {
			left |= 1 << row
			m.stuck = seen &^ m.closed
		}
	}
	return left
}

// find gives a row a column, if need be one whose owner finds another one. Columns of seen are not looked at.
func (m *match) find(row int, seen *uint64) bool {
	for m.rows[row]&^*seen != 0 {
		column := bits.TrailingZeros64(m.rows[row] &^ *seen)
		*seen |= 1 << column
		if !has(m.taken, column) || m.find(m.owner[column], seen) {
			m.owner[column] = row
			m.taken |= 1 << column
			return true
		}
	}
	return false
}

func has(set uint64, number int) bool { return set>>number&1 == 1 }
