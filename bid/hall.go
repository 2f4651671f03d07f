package bid

import (
	"slices"

	"oast/api"
)

// most is the greatest number of buyers, and of lots, of a hall. A set of either is a word.
const most = 64

// CheckHall tells whether the hall is valid.
func CheckHall(worth [][]int64) api.Errno {
	if len(worth) == 0 || len(worth[0]) == 0 {
		return api.ErrArg
	}
	if len(worth) > most || len(worth[0]) > most {
		return api.ErrLong
	}
	for _, row := range worth {
		if len(row) != len(worth[0]) {
			return api.ErrShape
		}
	}
	for _, row := range worth {
		if !areWorths(row) {
			return api.ErrArg
		}
	}
	return api.OK
}

// Hall returns the least prices and the first allotment that is a balance with them.
func Hall(worth [][]int64) (lots []int, prices []int64, e api.Errno) {
	if e := CheckHall(worth); e != api.OK {
		return nil, nil, e
	}
	rise := func(c choice) choice {
		buyers, lots := c.crowd()
		step := c.step(worth, buyers, lots)
		for _, lot := range members(lots) {
			c.prices[lot] += step
		}
		return choose(worth, c.prices[:len(worth[0])])
	}
	now := choose(worth, make([]int64, len(worth[0])))
	for next := rise(now); next.prices != now.prices; next = rise(now) {
		now = next
	}
	return now.allot(len(worth)), slices.Clone(now.prices[:len(worth[0])]), api.OK
}

// Content tells whether prices and an allotment are a balance, and if not, which buyer is the first that is not content.
func Content(worth [][]int64, lots []int, prices []int64) (buyer int, ok bool) {
	if CheckHall(worth) != api.OK || checkPrices(worth, prices) != api.OK || len(lots) != len(worth) {
		return none, false
	}
	var given uint64
	for _, lot := range lots {
		if lot < none || lot >= len(prices) || lot != none && has(given, lot) {
			return none, false
		}
		if lot != none {
			given |= 1 << lot
		}
	}
	c := choose(worth, prices)
	for buyer, lot := range lots {
		if lot == none && has(c.eager, buyer) || lot != none && !has(c.wanted[buyer], lot) {
			return buyer, false
		}
	}
	return none, c.dear&^given == 0
}

// Wanted returns the lots with which a buyer is content.
func Wanted(worth [][]int64, prices []int64, buyer int) ([]int, api.Errno) {
	if e := CheckHall(worth); e != api.OK {
		return nil, e
	}
	if e := checkPrices(worth, prices); e != api.OK {
		return nil, e
	}
	if buyer < 0 || buyer >= len(worth) {
		return nil, api.ErrArg
	}
	_, wanted := favourites(worth[buyer], prices)
	return members(wanted), api.OK
}

// Crowd returns buyers that want more lots of a set than there are, and that set.
func Crowd(worth [][]int64, prices []int64) (buyers, lots []int, ok bool) {
	if CheckHall(worth) != api.OK || checkPrices(worth, prices) != api.OK {
		return nil, nil, false
	}
	c := choose(worth, prices)
	b, l := c.crowd()
	return members(b), members(l), b != 0
}

func checkPrices(worth [][]int64, prices []int64) api.Errno {
	if len(prices) != len(worth[0]) {
		return api.ErrShape
	}
	if !areWorths(prices) {
		return api.ErrArg
	}
	return api.OK
}
