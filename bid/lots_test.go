package bid_test

import (
	"math"
	"math/rand/v2"
	"slices"
	"testing"

	"oast/api"
	"oast/bid"
)

// P4.7: the chapter's examples; the highest bid, of equal ones the first, pays the next one or the reserve.
func TestSecond(t *testing.T) {
	wantSecond(t, []int64{3, 9, 9}, 4, 1, 9, api.OK)
	wantSecond(t, []int64{3, 9, 5}, 4, 1, 5, api.OK)
	wantSecond(t, []int64{3, 9, 5}, 7, 1, 7, api.OK)
	wantSecond(t, []int64{3, 9, 5}, 9, 1, 9, api.OK)
	wantSecond(t, []int64{3, 9, 5}, 10, 0, 0, api.ErrNone)
	wantSecond(t, []int64{8}, 3, 0, 3, api.OK)
	wantSecond(t, []int64{8, 2}, 0, 0, 2, api.OK)
	wantSecond(t, []int64{0, 0}, 0, 0, 0, api.OK)
	wantSecond(t, nil, 0, 0, 0, api.ErrNone)
	wantSecond(t, []int64{api.MaxWorth, api.MaxWorth}, api.MaxWorth, 0, api.MaxWorth, api.OK)
}

// P4.7: too many bids come first, then numbers out of range, then bids below the reserve.
func TestWrongSecond(t *testing.T) {
	many := slices.Repeat([]int64{7}, api.MaxItems+1)
	wantSecond(t, many, 0, 0, 0, api.ErrLong)
	wantSecond(t, many, -1, 0, 0, api.ErrLong)
	wantSecond(t, many[1:], 0, 0, 7, api.OK)
	for _, x := range notWorths {
		wantSecond(t, []int64{5, x}, 0, 0, 0, api.ErrArg)
		wantSecond(t, []int64{x}, 9, 0, 0, api.ErrArg)
		wantSecond(t, []int64{5}, x, 0, 0, api.ErrArg)
		wantSecond(t, nil, x, 0, 0, api.ErrArg)
		wantSecond(t, append(many, x), 0, 0, 0, api.ErrLong)
	}
}

// P4.7: as many of the highest bids win as there are lots, of equal ones the first ones, and pay the highest one that does not.
func TestUniform(t *testing.T) {
	bids := []int64{5, 7, 6}
	wantUniform(t, bids, 2, 5, 1, 2)
	wantUniform(t, bids, 1, 6, 1)
	wantUniform(t, bids, 0, 7)
	wantUniform(t, bids, 3, 0, 0, 1, 2)
	wantUniform(t, bids, 4, 0, 0, 1, 2)
	wantUniform(t, bids, api.MaxItems, 0, 0, 1, 2)
	wantUniform(t, nil, 0, 0)
	wantUniform(t, nil, 3, 0)
	wantUniform(t, []int64{4, 9, 4, 4, 9, 4}, 4, 4, 0, 1, 2, 4)
	wantUniform(t, []int64{0, api.MaxWorth}, 1, 0, 1)
}

// P4.7: the winners are those of a list in which a bid is moved before all lesser ones.
func TestUniformOfMany(t *testing.T) {
	r := rand.New(rand.NewPCG(4, 8))
	bids := make([]int64, api.MaxItems)
	for i := range bids {
		bids[i] = r.Int64N(50)
	}
	for _, lots := range []int{1, 2, 1000, 4000, 4095, 4096} {
		winners, price, e := bid.Uniform(bids, lots)
		least, last := int64(math.MaxInt64), -1
		for _, w := range winners {
			if bids[w] <= least {
				least, last = bids[w], w
			}
		}
		lose := int64(0)
		for i, b := range bids {
			if _, won := slices.BinarySearch(winners, i); !won {
				lose = max(lose, b)
				if b > least || b == least && i < last {
					t.Errorf("%d lots: bid %d of %d does not win", lots, i, b)
				}
			}
		}
		if e != api.OK || len(winners) != lots || !rising(winners, len(bids)) || price != lose {
			t.Errorf("%d lots: %d winners, price %d, error %d, want the price %d", lots, len(winners), price, e, lose)
		}
	}
}

// P4.7: too many bids come first, then numbers out of range.
func TestWrongUniform(t *testing.T) {
	many := slices.Repeat([]int64{7}, api.MaxItems+1)
	wantNoUniform(t, many, 1, api.ErrLong)
	wantNoUniform(t, many, -1, api.ErrLong)
	wantUniform(t, many[1:], 1, 7, 0)
	for _, x := range notWorths {
		wantNoUniform(t, []int64{5, x}, 1, api.ErrArg)
		wantNoUniform(t, []int64{x}, 0, api.ErrArg)
		wantNoUniform(t, append(many, x), 1, api.ErrLong)
	}
	for _, lots := range []int{-1, api.MaxItems + 1, math.MaxInt, math.MinInt} {
		wantNoUniform(t, []int64{5}, lots, api.ErrArg)
		wantNoUniform(t, nil, lots, api.ErrArg)
	}
}
