package stock

import (
	"math/bits"

	"oast/api"
)

// Test is the alpha acid of a sample.
type Test struct {
	Grams int64
	Alpha int64
}

const (
	maxAlpha  = 3000
	maxGrams  = 1000000000
	maxCharge = 1000000000 // the price for a kilogram
)

func isAlpha(alpha int64) bool {
	return alpha >= 0 && alpha <= maxAlpha
}

// Alpha returns the mean of alpha acid, weighted by grams.
func Alpha(l []Test) (int64, api.Errno) {
	if len(l) > api.MaxItems {
		return 0, api.ErrLong
	}
	if len(l) == 0 {
		return 0, api.ErrArg
	}
	var sum, grams int64
	for _, t := range l {
		if t.Grams < 1 || t.Grams > maxGrams || !isAlpha(t.Alpha) {
			return 0, api.ErrArg
		}
		sum += t.Grams * t.Alpha
		grams += t.Grams
	}
	return nearest(sum, grams), api.OK
}

// nearest returns a divided by b, rounded to the nearest integer, to the even one of two; a is at least 0 and b greater than 0.
func nearest(a, b int64) int64 {
	quotient, rest := a/b, a%b
	if rest > b-rest || rest == b-rest && quotient%2 == 1 {
		quotient++
	}
	return quotient
}

// Worth returns the price of a delivery of hops of another alpha acid than the standard one.
func Worth(price, grams, alpha, standard int64) (int64, api.Errno) {
	if price < 0 || price > maxCharge || grams < 0 || grams > maxGrams || !isAlpha(alpha) || !isAlpha(standard) || standard == 0 {
		return 0, api.ErrArg
	}
	// The product of all three needs more than 64 bits; the quotient does not.
	high, low := bits.Mul64(uint64(price*grams), uint64(alpha))
	worth, _ := bits.Div64(high, low, uint64(1000*standard))
	return int64(worth), api.OK
}
