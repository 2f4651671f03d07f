package stock_test

import (
	"math"
	"math/big"
	"slices"
	"testing"

	"oast/api"
	"oast/stock"
)

// The numbers of the generator's definition.
const (
	step64  uint64 = 0x9e3779b97f4a7c15
	first64 uint64 = 0xbf58476d1ce4e5b9
	then64  uint64 = 0x94d049bb133111eb
)

// draws is the generator as the chapter defines it, with whole numbers of any size.
type draws struct{ x *big.Int }

func whole(x uint64) *big.Int { return new(big.Int).SetUint64(x) }

var of64 = new(big.Int).Lsh(big.NewInt(1), 64)

func (d *draws) next() *big.Int {
	d.x = new(big.Int).Mod(new(big.Int).Add(d.x, whole(step64)), of64)
	z := d.x
	for _, s := range []struct {
		shift uint
		times uint64
	}{{30, first64}, {27, then64}} {
		z = new(big.Int).Xor(z, new(big.Int).Rsh(z, s.shift))
		z = new(big.Int).Mod(new(big.Int).Mul(z, whole(s.times)), of64)
	}
	return new(big.Int).Xor(z, new(big.Int).Rsh(z, 31))
}

func (d *draws) below(m int) int {
	number := big.NewInt(int64(m))
	greatest := new(big.Int).Mul(new(big.Int).Div(of64, number), number)
	for {
		if x := d.next(); x.Cmp(greatest) < 0 {
			return int(new(big.Int).Mod(x, number).Int64())
		}
	}
}

// sampled is Sample as the chapter defines it, with the whole list.
func sampled(seed uint64, n, k int) []int {
	list := make([]int, n)
	for i := range list {
		list[i] = i
	}
	d := &draws{whole(seed)}
	for i := range k {
		j := d.below(n - i)
		list[i], list[i+j] = list[i+j], list[i]
	}
	return list[:k]
}

func wantSample(t *testing.T, seed uint64, n, k int, want []int) {
	t.Helper()
	got, e := stock.Sample(seed, n, k)
	if e != api.OK || !slices.Equal(got, want) {
		t.Errorf("Sample(%#x, %d, %d) is %v, error %d, want %v", seed, n, k, got, e, want)
	}
}

// P1.6: the first numbers of the seed 0, by hand.
func TestSampleOfSeed0(t *testing.T) {
	d := &draws{whole(0)}
	numbers := []uint64{0xe220a8397b1dcdaf, 0x6e789e6aa1b965f4, 0x06c45d188009454f}
	for i, want := range numbers {
		if got := d.next(); got.Cmp(whole(want)) != 0 {
			t.Errorf("number %d is %x, want %x", i, got, want)
		}
	}
	// The remainders are 1 by 3 and 0 by 2, and 1 remains: element 0 goes to place 1.
	wantSample(t, 0, 3, 3, []int{1, 0, 2})
	wantSample(t, 0, 3, 1, []int{1})
	wantSample(t, 0, 3, 0, nil)
	wantSample(t, 0, 0, 0, nil)
	wantSample(t, 0, 1, 1, []int{0})
}

// P1.6: the definition, for other seeds and sizes.
func TestSample(t *testing.T) {
	for _, seed := range []uint64{0, 1, 2, 42, 1 << 63, math.MaxUint64, math.MaxUint64 - step64, math.MaxUint64 - step64 + 1} {
		for _, c := range [][2]int{{1, 0}, {1, 1}, {2, 1}, {2, 2}, {5, 2}, {7, 7}, {64, 63}, {100, 100}, {1000, 10}, {4097, 4096}} {
			wantSample(t, seed, c[0], c[1], sampled(seed, c[0], c[1]))
		}
	}
	wantSample(t, 7, api.MaxPocket, 50, sampled(7, api.MaxPocket, 50))
}

// P1.6: all different, from 0 to n - 1, up to the greatest n.
func TestSampleOfAll(t *testing.T) {
	l, e := stock.Sample(9, api.MaxPocket, api.MaxPocket)
	if e != api.OK || len(l) != api.MaxPocket {
		t.Fatalf("%d numbers, error %d", len(l), e)
	}
	slices.Sort(l)
	for i, x := range l {
		if x != i {
			t.Fatalf("number %d of the sorted ones is %d", i, x)
		}
	}
}

// unshift finds z of z xor (z shifted right by n).
func unshift(x uint64, n uint) uint64 {
	z := x
	for range 64 {
		z = x ^ z>>n
	}
	return z
}

// inverse finds the number whose product with an odd x is 1 modulo 2^64.
func inverse(x uint64) uint64 {
	y := x
	for range 6 {
		y *= 2 - x*y
	}
	return y
}

// seedOf finds the seed whose first number is x.
func seedOf(x uint64) uint64 {
	z := unshift(x, 31)
	z = unshift(z*inverse(then64), 27)
	z = unshift(z*inverse(first64), 30)
	return z - step64
}

// P1.6: numbers from the greatest multiple on are passed over, and only these.
func TestSamplePassesOver(t *testing.T) {
	for _, n := range []int{1, 2, 3, 5, 6, 7, 64, 1000, 999983, 524288, api.MaxPocket} {
		over := new(big.Int).Mod(of64, big.NewInt(int64(n))).Uint64()
		for _, x := range []uint64{math.MaxUint64, math.MaxUint64 - over, math.MaxUint64 - over + 1, math.MaxUint64 - over - 1, uint64(n), uint64(n - 1), 0} {
			seed := seedOf(x)
			d := &draws{whole(seed)}
			if got := d.next(); got.Cmp(whole(x)) != 0 {
				t.Fatalf("the seed of %x draws %x", x, got)
			}
			k := min(n, 3)
			wantSample(t, seed, n, k, sampled(seed, n, k))
		}
	}
	// Of 3, the greatest number alone is passed over; its remainder would be 0, that of the next one is another.
	seed := seedOf(math.MaxUint64)
	got, e := stock.Sample(seed, 3, 1)
	next := &draws{whole(seed + step64)}
	if want := next.below(3); e != api.OK || !slices.Equal(got, []int{want}) {
		t.Errorf("%v, error %d, want %d", got, e, want)
	}
}

// P1.6: the ranges.
func TestSampleRanges(t *testing.T) {
	for _, c := range [][2]int{{-1, -1}, {-1, 0}, {0, -1}, {5, -1}, {5, 6}, {0, 1}, {api.MaxPocket + 1, 0}, {api.MaxPocket + 1, 1}, {math.MaxInt, 1}, {math.MaxInt, math.MaxInt}, {math.MinInt, 0}, {3, math.MinInt}, {math.MinInt, math.MinInt}, {2, math.MaxInt}} {
		if l, e := stock.Sample(1, c[0], c[1]); e != api.ErrArg || len(l) != 0 {
			t.Errorf("Sample of %v is %v, error %d, want error %d alone", c, l, e, api.ErrArg)
		}
	}
	wantSample(t, 1, api.MaxPocket, 0, nil)
}

// repeated is a list of the same test n times.
func repeated(n int, x stock.Test) []stock.Test {
	return slices.Repeat([]stock.Test{x}, n)
}

// P1.7: the mean.
func TestAlpha(t *testing.T) {
	for _, c := range []struct {
		l    []stock.Test
		want int64
	}{
		{[]stock.Test{{Grams: 1, Alpha: 0}}, 0},
		{[]stock.Test{{Grams: 1000000000, Alpha: 3000}}, 3000},
		{[]stock.Test{{Grams: 5, Alpha: 777}}, 777},
		{[]stock.Test{{Grams: 1, Alpha: 500}, {Grams: 1, Alpha: 501}}, 500},
		{[]stock.Test{{Grams: 1, Alpha: 501}, {Grams: 1, Alpha: 502}}, 502},
		{[]stock.Test{{Grams: 1, Alpha: 0}, {Grams: 1, Alpha: 1}}, 0},
		{[]stock.Test{{Grams: 1, Alpha: 1}, {Grams: 1, Alpha: 2}}, 2},
		{[]stock.Test{{Grams: 2, Alpha: 500}, {Grams: 1, Alpha: 501}}, 500},
		{[]stock.Test{{Grams: 1, Alpha: 500}, {Grams: 2, Alpha: 501}}, 501},
		{[]stock.Test{{Grams: 3, Alpha: 1}, {Grams: 1, Alpha: 3}}, 2},
		{[]stock.Test{{Grams: 3, Alpha: 1}, {Grams: 1, Alpha: 7}}, 2},
		{[]stock.Test{{Grams: 3, Alpha: 0}, {Grams: 1, Alpha: 10}}, 2},
		{[]stock.Test{{Grams: 3, Alpha: 0}, {Grams: 1, Alpha: 14}}, 4},
		{[]stock.Test{{Grams: 499999999, Alpha: 4}, {Grams: 500000000, Alpha: 5}}, 5},
		{[]stock.Test{{Grams: 500000000, Alpha: 4}, {Grams: 499999999, Alpha: 5}}, 4},
		{[]stock.Test{{Grams: 499999999, Alpha: 5}, {Grams: 500000000, Alpha: 6}}, 6},
		{[]stock.Test{{Grams: 500000000, Alpha: 5}, {Grams: 499999999, Alpha: 6}}, 5},
		{append(repeated(4095, stock.Test{Grams: 1000000000, Alpha: 3000}), stock.Test{Grams: 1000000000, Alpha: 2999}), 3000},
		{repeated(api.MaxItems, stock.Test{Grams: 1000000000, Alpha: 3000}), 3000},
	} {
		before := slices.Clone(c.l)
		if n, e := stock.Alpha(c.l); n != c.want || e != api.OK {
			t.Errorf("Alpha of %d tests from %v on is %d, error %d, want %d", len(c.l), c.l[0], n, e, c.want)
		}
		if !slices.Equal(before, c.l) {
			t.Error("Alpha has changed its argument")
		}
	}
}

// P1.7: what Alpha refuses; too many tests come before bad ones.
func TestAlphaRefused(t *testing.T) {
	good := stock.Test{Grams: 1, Alpha: 1}
	bad := []stock.Test{{Grams: 0, Alpha: 1}, {Grams: -1, Alpha: 1}, {Grams: 1000000001, Alpha: 1}, {Grams: math.MaxInt64, Alpha: 1}, {Grams: math.MinInt64, Alpha: 1}, {Grams: 1, Alpha: -1}, {Grams: 1, Alpha: 3001}, {Grams: 1, Alpha: math.MaxInt64}, {Grams: 1, Alpha: math.MinInt64}, {}}
	refused := func(what string, want api.Errno, l []stock.Test) {
		t.Helper()
		if n, e := stock.Alpha(l); n != 0 || e != want {
			t.Errorf("Alpha of %s is %d, error %d, want error %d alone", what, n, e, want)
		}
	}
	refused("nil", api.ErrArg, nil)
	refused("no tests", api.ErrArg, []stock.Test{})
	for _, x := range bad {
		refused("a bad test", api.ErrArg, []stock.Test{x})
		refused("a bad test first", api.ErrArg, []stock.Test{x, good})
		refused("a bad test last", api.ErrArg, []stock.Test{good, good, x})
		refused("too many bad tests", api.ErrLong, repeated(api.MaxItems+1, x))
	}
	refused("too many tests", api.ErrLong, repeated(api.MaxItems+1, good))
}

// P1.7: the price of a delivery.
func TestWorth(t *testing.T) {
	const most = 1000000000
	for _, c := range [][5]int64{
		{900, 1500, 550, 500, 1485},
		{0, 1500, 550, 500, 0},
		{900, 0, 550, 500, 0},
		{900, 1500, 0, 500, 0},
		{1, 1000, 1, 1, 1},
		{1, 999, 1, 1, 0},
		{1, 1999, 1, 1, 1},
		{999, 999, 999, 1000, 997},
		{3, 500, 1, 1, 1},
		{1, 1500, 3, 2, 2},
		{7, 333, 3000, 3000, 2},
		{7, 333, 2999, 3000, 2},
		{most, most, 3000, 3000, 1000000000000000},
		{most, most, 3000, 1, 3000000000000000000},
		{most, most, 2999, 7, 428428571428571428},
		{most, most - 1, 3000, 1, 2999999997000000000},
		{most - 1, most - 1, 3000, 2999, 1000333442480826},
	} {
		if n, e := stock.Worth(c[0], c[1], c[2], c[3]); n != c[4] || e != api.OK {
			t.Errorf("Worth of %v is %d, error %d", c, n, e)
		}
	}
}

// P1.7: what Worth refuses.
func TestWorthRefused(t *testing.T) {
	good := [4]int64{900, 1500, 550, 500}
	bad := [4][]int64{
		{-1, 1000000001, math.MaxInt64, math.MinInt64},
		{-1, 1000000001, math.MaxInt64, math.MinInt64},
		{-1, 3001, math.MaxInt64, math.MinInt64},
		{-1, 0, 3001, math.MaxInt64, math.MinInt64},
	}
	for i, l := range bad {
		for _, x := range l {
			c := good
			c[i] = x
			if n, e := stock.Worth(c[0], c[1], c[2], c[3]); n != 0 || e != api.ErrArg {
				t.Errorf("Worth of %v is %d, error %d, want error %d alone", c, n, e, api.ErrArg)
			}
		}
	}
}
