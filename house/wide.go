package house

import (
	"cmp"
	"math/bits"
)

// wide is a whole number of 128 bits, for products and sums that an int64 does not hold.
type wide struct {
	high int64
	low  uint64
}

func widen(x int64) wide { return wide{x >> 63, uint64(x)} }

// narrow is a number that is in the range of int64.
func (x wide) narrow() int64 { return int64(x.low) }

// times is the product of two numbers, if it is below 2 to the 127.
func times(a, b uint64) wide {
	high, low := bits.Mul64(a, b)
	return wide{int64(high), low}
}

func product(a, b int64) wide {
	p := times(size(a), size(b))
	if (a < 0) != (b < 0) {
		return wide{}.minus(p)
	}
	return p
}

func (x wide) plus(y wide) wide {
	low, carry := bits.Add64(x.low, y.low, 0)
	return wide{x.high + y.high + int64(carry), low}
}

func (x wide) minus(y wide) wide {
	low, borrow := bits.Sub64(x.low, y.low, 0)
	return wide{x.high - y.high - int64(borrow), low}
}

func (x wide) compare(y wide) int {
	return cmp.Or(cmp.Compare(x.high, y.high), cmp.Compare(x.low, y.low))
}

func (x wide) max(y wide) wide {
	if x.compare(y) < 0 {
		return y
	}
	return x
}

// over divides a number that is not negative by one above 0, bit by bit, as the divisor can be beyond 64 bits.
func (x wide) over(y wide) (quotient, rest wide) {
	for i := x.length() - 1; i >= 0; i-- {
		quotient, rest = quotient.plus(quotient), rest.plus(rest)
		rest.low |= x.bit(i)
		if rest.compare(y) >= 0 {
			rest = rest.minus(y)
			quotient.low |= 1
		}
	}
	return quotient, rest
}

// length is how many bits a number that is not negative has.
func (x wide) length() int {
	if x.high == 0 {
		return bits.Len64(x.low)
	}
	return 64 + bits.Len64(uint64(x.high))
}

func (x wide) bit(i int) uint64 {
	if i < 64 {
		return x.low >> i & 1
	}
	return uint64(x.high) >> (i - 64) & 1
}
