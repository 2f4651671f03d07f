package bid_test

import (
	"math"
	"math/rand/v2"
	"slices"
	"testing"

	"oast/api"
	"oast/bid"
)

// pair is the chapter's third example.
func pair() [][]int64 { return [][]int64{{5, 3}, {4, 0}} }

// wrongHalls are halls that are not valid, by the error that CheckHall returns.
func wrongHalls() map[api.Errno][][][]int64 {
	ragged := func(rows, elements int, worth int64) [][]int64 {
		l := hall(rows, elements, worth)
		l[rows-1] = l[rows-1][:elements-1]
		return l
	}
	l := map[api.Errno][][][]int64{
		api.ErrArg:   {nil, {{}}, {nil, {1}}, make([][]int64, 65)},
		api.ErrLong:  {hall(65, 1, 0), hall(1, 65, 0), hall(65, 65, -1), ragged(65, 2, 0), ragged(2, 65, -1)},
		api.ErrShape: {{{1}, {1, 2}}, {{1, 2}, {1}}, {{1}, nil}, ragged(3, 3, -1), {{1}, make([]int64, 65)}},
	}
	for _, x := range notWorths {
		l[api.ErrArg] = append(l[api.ErrArg], [][]int64{{x}}, [][]int64{{1, 2}, {3, x}})
	}
	return l
}

// P4.5: CheckHall names what is wrong, and the others return it first.
func TestWrongHalls(t *testing.T) {
	for want, halls := range wrongHalls() {
		for _, worth := range halls {
			if e := bid.CheckHall(worth); e != want {
				t.Errorf("CheckHall(%v): error %d, want %d", worth, e, want)
			}
			if lots, prices, e := bid.Hall(worth); e != want || len(lots) != 0 || len(prices) != 0 {
				t.Errorf("Hall(%v): %v, %v, error %d, want error %d", worth, lots, prices, e, want)
			}
			for n := range 3 {
				prices := make([]int64, n)
				wantContent(t, worth, slices.Repeat([]int{-1}, n), prices, -1, false)
				wantWanted(t, worth, prices, 0, want)
				wantWanted(t, worth, []int64{-1}, -1, want)
				wantNoCrowd(t, worth, prices)
			}
		}
	}
}

// P4.5: halls of all sizes are valid, with worths to the ends of their range.
func TestValidHalls(t *testing.T) {
	for _, worth := range [][][]int64{{{0}}, hall(64, 64, api.MaxWorth), hall(64, 1, 0), hall(1, 64, 3), pair()} {
		if e := bid.CheckHall(worth); e != api.OK {
			t.Errorf("CheckHall(%v): error %d", worth, e)
		}
	}
}

// P4.5: the chapter's example, and halls whose prices are easily seen.
func TestLeastPrices(t *testing.T) {
	wantHall(t, pair(), []int{1, 0}, []int64{2, 0})
	wantHall(t, [][]int64{{7}}, []int{0}, []int64{0})
	wantHall(t, [][]int64{{0}}, []int{-1}, []int64{0})
	wantHall(t, [][]int64{{3}, {9}, {5}}, []int{-1, 0, -1}, []int64{5})
	wantHall(t, [][]int64{{6, 2}}, []int{0}, []int64{0, 0})
	wantHall(t, [][]int64{{5, 9}, {5, 9}}, []int{0, 1}, []int64{0, 4})
	wantHall(t, [][]int64{{0, 0}, {0, 3}}, []int{-1, 1}, []int64{0, 0})
	wantHall(t, hall(3, 3, 8), []int{0, 1, 2}, []int64{0, 0, 0})
	wantHall(t, [][]int64{{api.MaxWorth}, {api.MaxWorth}}, []int{-1, 0}, []int64{api.MaxWorth})
}

// P4.5: who is content with no lot goes without one, but not if a lot with a price would be left.
func TestLotsWithPricesAreGiven(t *testing.T) {
	wantHall(t, [][]int64{{4}, {4}, {4}}, []int{-1, -1, 0}, []int64{4})
	wantHall(t, [][]int64{{4, 4}, {4, 4}, {4, 4}}, []int{-1, 0, 1}, []int64{4, 4})
	wantHall(t, [][]int64{{4, 4}, {4, 4}, {4, 4}, {9, 0}}, []int{-1, -1, 1, 0}, []int64{4, 4})
	wantHall(t, [][]int64{{4, 0}, {4, 0}, {0, 0}}, []int{-1, 0, -1}, []int64{4, 0})
	full := hall(64, 64, api.MaxWorth)
	lots, prices, _ := bid.Hall(full)
	for i := range full {
		if lots[i] != i || prices[i] != 0 {
			t.Errorf("a full hall: buyer %d gets %d, price %d", i, lots[i], prices[i])
		}
	}
	crowded := hall(64, 63, api.MaxWorth)
	lots, prices, _ = bid.Hall(crowded)
	for i := range crowded {
		if lots[i] != i-1 || prices[max(i, 1)-1] != api.MaxWorth {
			t.Errorf("a hall with a lot too few: buyer %d gets %d", i, lots[i])
		}
	}
}

// P4.6: an allotment is a balance, or the first buyer that is not content is named, or the lots that nobody gets are too dear.
func TestContent(t *testing.T) {
	wantContent(t, pair(), []int{1, 0}, []int64{2, 0}, -1, true)
	wantContent(t, pair(), []int{1, 0}, []int64{3, 0}, -1, true)
	wantContent(t, pair(), []int{1, 0}, []int64{4, 0}, -1, true)
	wantContent(t, pair(), []int{1, 0}, []int64{5, 0}, 1, false)
	wantContent(t, pair(), []int{1, 0}, []int64{1, 0}, 0, false)
	wantContent(t, pair(), []int{0, 1}, []int64{2, 0}, 1, false)
	wantContent(t, pair(), []int{0, -1}, []int64{2, 0}, 1, false)
	wantContent(t, pair(), []int{-1, -1}, []int64{2, 0}, 0, false)
	wantContent(t, pair(), []int{0, -1}, []int64{4, 2}, -1, false) // all are content, but lot 1 has a price
	wantContent(t, pair(), []int{0, -1}, []int64{4, 3}, -1, false)
	wantContent(t, pair(), []int{-1, -1}, []int64{5, 3}, -1, false)
	wantContent(t, [][]int64{{0, 0}}, []int{-1}, []int64{0, 0}, -1, true)
	wantContent(t, [][]int64{{0, 0}}, []int{1}, []int64{0, 0}, -1, true)
}

// P4.6: lists that do not fit are seen before any buyer.
func TestContentWithoutAnAllotment(t *testing.T) {
	for _, lots := range [][]int{nil, {1}, {1, 0, -1}, {0, 0}, {1, 1}, {2, 0}, {1, -2}, {-1, math.MaxInt}, {math.MinInt, -1}, {-1, 64}} {
		wantContent(t, pair(), lots, []int64{2, 0}, -1, false)
		wantContent(t, pair(), lots, []int64{0, 0}, -1, false)
	}
	for _, prices := range [][]int64{nil, {0}, {0, 0, 0}} {
		wantContent(t, pair(), []int{-1, -1}, prices, -1, false)
		wantWanted(t, pair(), prices, 0, api.ErrShape)
		wantWanted(t, pair(), prices, -1, api.ErrShape)
		wantNoCrowd(t, pair(), prices)
	}
	for _, x := range notWorths {
		wantContent(t, pair(), []int{-1, -1}, []int64{0, x}, -1, false)
		wantWanted(t, pair(), []int64{0, x}, 0, api.ErrArg)
		wantNoCrowd(t, pair(), []int64{0, x})
		wantWanted(t, pair(), []int64{x}, 0, api.ErrShape)
	}
}

// P4.6: a buyer wants the lots with which it is content, none if it is content with no lot alone.
func TestWanted(t *testing.T) {
	worth := [][]int64{{5, 3, 4, 5}}
	wantWanted(t, worth, []int64{0, 0, 0, 0}, 0, api.OK, 0, 3)
	wantWanted(t, worth, []int64{2, 0, 1, 2}, 0, api.OK, 0, 1, 2, 3)
	wantWanted(t, worth, []int64{5, 3, 4, 5}, 0, api.OK, 0, 1, 2, 3)
	wantWanted(t, worth, []int64{6, 4, 4, 6}, 0, api.OK, 2)
	wantWanted(t, worth, []int64{6, 4, 5, 6}, 0, api.OK)
	wantWanted(t, worth, slices.Repeat([]int64{api.MaxWorth}, 4), 0, api.OK)
	for _, buyer := range []int{-1, 1, 64, math.MaxInt, math.MinInt} {
		wantWanted(t, worth, make([]int64, 4), buyer, api.ErrArg)
	}
}

// P4.6: the chapter's crowd, and prices at which there is none.
func TestCrowds(t *testing.T) {
	buyers, lots, ok := bid.Crowd(pair(), []int64{0, 0})
	if !slices.Equal(buyers, []int{0, 1}) || !slices.Equal(lots, []int{0}) || !ok {
		t.Errorf("Crowd: %v, %v, %v", buyers, lots, ok)
	}
	wantCrowd(t, pair(), []int64{1, 0})
	wantNoCrowd(t, pair(), []int64{2, 0})
	wantNoCrowd(t, pair(), []int64{api.MaxWorth, api.MaxWorth})
	wantNoCrowd(t, [][]int64{{4}, {4}}, []int64{4})
	wantCrowd(t, [][]int64{{4}, {4}}, []int64{3})
	wantCrowd(t, hall(64, 63, 1), make([]int64, 63))
	wantNoCrowd(t, hall(64, 64, 1), make([]int64, 64))
}

// P4.9: the least prices are what the others lose in the best allotment, in large halls too, and a balance with the lots.
func TestLargeHalls(t *testing.T) {
	r := rand.New(rand.NewPCG(4, 7))
	for _, top := range []int64{2, 5, 100, api.MaxWorth} {
		for range 3 {
			worth := randomHall(r, 64, 64, top+1)
			lots, prices, e := bid.Hall(worth)
			if e != api.OK {
				t.Fatalf("Hall: error %d", e)
			}
			wantContent(t, worth, lots, prices, -1, true)
			wantNoCrowd(t, worth, prices)
			all := greatest(worth)
			for buyer, lot := range lots {
				if lot != -1 {
					if want := greatest(slices.Delete(slices.Clone(worth), buyer, buyer+1)) - (all - worth[buyer][lot]); prices[lot] != want {
						t.Errorf("%d buyers, %d lots: price %d of lot %d, want %d", len(worth), len(prices), prices[lot], lot, want)
					}
				}
			}
		}
	}
}

// greatest returns the greatest sum of worths of an allotment: the buyers come one by one, each with the best row of changes that it causes.
func greatest(worth [][]int64) int64 {
	var sum int64
	owner := slices.Repeat([]int{-1}, 64)
	for buyer, row := range worth {
		gain, from := rows(worth, row, owner)
		best, end := int64(0), -1
		for lot, x := range gain {
			if owner[lot] != -1 {
				x -= worth[owner[lot]][lot] // its owner is the one that gets none
			}
			if x > best {
				best, end = x, lot
			}
		}
		sum += best
		for ; end != -1; end = from[end] {
			owner[end] = buyer
			if from[end] != -1 {
				owner[end] = owner[from[end]]
			}
		}
	}
	return sum
}

// rows returns what is gained if each lot changes its owner, as the last one of a row of lots that begins with a new buyer, and the lot before it.
func rows(worth [][]int64, buyer []int64, owner []int) (gain []int64, from []int) {
	gain, from = slices.Clone(buyer), slices.Repeat([]int{-1}, len(buyer))
	for changed := true; changed; {
		changed = false
		for lot := range gain {
			if owner[lot] == -1 {
				continue
			}
			for to, w := range worth[owner[lot]] {
				if x := gain[lot] - worth[owner[lot]][lot] + w; x > gain[to] {
					gain[to], from[to], changed = x, lot, true
				}
			}
		}
	}
	return gain, from
}
