package stock

import (
	"math"

	"oast/api"
)

// generator draws numbers of 64 bits; x is its seed.
type generator struct{ x uint64 }

func (g *generator) next() uint64 {
	g.x += 0x9e3779b97f4a7c15
	z := g.x
	z = (z ^ z>>30) * 0xbf58476d1ce4e5b9
	z = (z ^ z>>27) * 0x94d049bb133111eb
	return z ^ z>>31
}

// below draws a number below m, each with the same chance: numbers from the greatest multiple of m on are passed over.
func (g *generator) below(m uint64) uint64 {
	// 2^64 itself is no number of 64 bits, so that its remainder is that of the number before it, and 1.
	over := (math.MaxUint64%m + 1) % m
	for {
		if z := g.next(); z <= math.MaxUint64-over {
			return z % m
		}
	}
}

// Sample draws k different numbers below n.
func Sample(seed uint64, n, k int) ([]int, api.Errno) {
	if k < 0 || k > n || n > api.MaxPocket {
		return nil, api.ErrArg
	}
	g := generator{seed}
	// Only elements that an exchange moved are kept, so that a small sample of many pockets is cheap.
	moved := map[int]int{}
	element := func(i int) int {
		if x, ok := moved[i]; ok {
			return x
		}
		return i
	}
	l := make([]int, k)
	for i := range l {
		other := i + int(g.below(uint64(n-i)))
		l[i] = element(other)
		// Element i is the drawn one now, but it is not looked at again.
		moved[other] = element(i)
	}
	return l, api.OK
}
