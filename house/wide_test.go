package house

// These tests see the inside of the package, as the sums and products that an int64 does not hold would take millions of calls.

import (
	"math"
	"math/big"
	"math/rand/v2"
	"slices"
	"testing"

	"oast/api"
)

func (x wide) big() *big.Int {
	high := new(big.Int).Lsh(big.NewInt(x.high), 64)
	return high.Add(high, new(big.Int).SetUint64(x.low))
}

// extremes are numbers about the ends of the ranges, and about 0.
func extremes() []int64 {
	return []int64{math.MinInt64, math.MinInt64 + 1, -1 << 32, -1000, -1, 0, 1, 2, 999, 1000, 1 << 32, 1<<53 + 1, math.MaxInt64 - 1, math.MaxInt64}
}

// randomInt has any number of bits.
func randomInt(r *rand.Rand) int64 { return int64(r.Uint64()) >> r.IntN(64) }

func wantBig(t *testing.T, what string, got wide, want *big.Int) {
	t.Helper()
	if got.big().Cmp(want) != 0 {
		t.Errorf("%s: %v, want %v", what, got.big(), want)
	}
}

// R10: products, sums, differences and comparisons are exact.
func TestWide(t *testing.T) {
	r := rand.New(rand.NewPCG(1, 9))
	list := extremes()
	for range 40 {
		list = append(list, randomInt(r))
	}
	for _, a := range list {
		wantBig(t, "widen", widen(a), big.NewInt(a))
		for _, b := range list {
			x, y := big.NewInt(a), big.NewInt(b)
			p := product(a, b)
			wantBig(t, "product", p, new(big.Int).Mul(x, y))
			c, d := list[r.IntN(len(list))], list[r.IntN(len(list))]
			q := product(c/2, d/2)
			wantBig(t, "plus", p.plus(q), new(big.Int).Add(p.big(), q.big()))
			wantBig(t, "minus", p.minus(q), new(big.Int).Sub(p.big(), q.big()))
			if got, want := p.compare(q), p.big().Cmp(q.big()); got != want {
				t.Errorf("compare %v, %v: %d", p.big(), q.big(), got)
			}
			if got := greatest(p, q, widen(a)).big(); got.Cmp(p.big()) < 0 || got.Cmp(q.big()) < 0 || got.Cmp(x) < 0 {
				t.Errorf("greatest of %v, %v, %d: %v", p.big(), q.big(), a, got)
			}
		}
	}
}

// R10: quotients and remainders are exact, also of divisors beyond 64 bits.
func TestOver(t *testing.T) {
	r := rand.New(rand.NewPCG(2, 9))
	for range 20000 {
		x := times(r.Uint64()>>(1+r.IntN(63)), r.Uint64()>>(1+r.IntN(63)))
		y := times(r.Uint64()>>r.IntN(64)|1, r.Uint64N(100)+1)
		quotient, rest := x.over(y)
		q, s := new(big.Int).QuoRem(x.big(), y.big(), new(big.Int))
		wantBig(t, "quotient", quotient, q)
		wantBig(t, "rest", rest, s)
	}
}

// P9.6: shares of great amounts, whose sum is beyond 64 bits, are exact and rounded by the greatest remainders.
func TestShares(t *testing.T) {
	r := rand.New(rand.NewPCG(3, 9))
	for range 3000 {
		weights := make([]uint64, r.IntN(64))
		for i := range weights {
			weights[i] = r.Uint64() >> (1 + r.IntN(63))
			if i > 0 && r.IntN(3) == 0 {
				weights[i] = weights[i-1] // equal remainders
			}
		}
		amount := r.Uint64() >> r.IntN(64)
		wantShares(t, amount, weights, shares(amount, weights))
	}
	most := uint64(math.MaxInt64)
	for _, x := range []struct {
		amount        uint64
		weights, want []uint64
	}{
		{5, nil, nil},
		{5, []uint64{0, 0}, []uint64{0, 0}},
		{0, []uint64{1, 2}, []uint64{0, 0}},
		{4, []uint64{1, 2}, []uint64{1, 2}},
		{math.MaxUint64, []uint64{most, 1}, []uint64{most, 1}},
		{most + 1, []uint64{most, most, most}, []uint64{3074457345618258603, 3074457345618258603, 3074457345618258602}},
		{1, []uint64{most - 1, most, most}, []uint64{0, 1, 0}},
	} {
		if got := shares(x.amount, x.weights); !slices.Equal(got, x.want) {
			t.Errorf("%d in shares of %v: %v, want %v", x.amount, x.weights, got, x.want)
		}
	}
}

// wantShares asks for the definition: each share is its exact one, rounded down, and one more for those with the greatest remainders.
func wantShares(t *testing.T, amount uint64, weights, got []uint64) {
	t.Helper()
	all := new(big.Int)
	for _, w := range weights {
		all.Add(all, new(big.Int).SetUint64(w))
	}
	total := new(big.Int).SetUint64(amount)
	if all.Cmp(total) < 0 {
		total.Set(all)
	}
	sum := new(big.Int)
	leastUp, mostDown := -1, -1 // whose remainders come closest
	rests := make([]*big.Int, len(weights))
	for i, w := range weights {
		sum.Add(sum, new(big.Int).SetUint64(got[i]))
		if all.Sign() == 0 {
			continue
		}
		x := new(big.Int).Mul(total, new(big.Int).SetUint64(w))
		down, rest := x.QuoRem(x, all, new(big.Int))
		rests[i] = rest
		up := got[i] - down.Uint64()
		switch {
		case up > 1:
			t.Errorf("%d of %d in shares of %v: %d", i, amount, weights, got[i])
		case up == 1 && (leastUp < 0 || rest.Cmp(rests[leastUp]) <= 0):
			leastUp = i
		case up == 0 && (mostDown < 0 || rest.Cmp(rests[mostDown]) > 0):
			mostDown = i
		}
	}
	if sum.Cmp(total) != 0 {
		t.Errorf("%d in shares of %v: %v is %v together", amount, weights, got, sum)
	}
	if leastUp < 0 || mostDown < 0 {
		return
	}
	if c := rests[leastUp].Cmp(rests[mostDown]); c < 0 || c == 0 && leastUp > mostDown {
		t.Errorf("%d in shares of %v: %v: number %d has one more, not %d", amount, weights, got, leastUp, mostDown)
	}
}

// great is a house in which the members have these amounts of cash, and positions in the first month.
func great(t *testing.T, c Config, cash, positions []int64) *House {
	t.Helper()
	c.Members, c.Months = len(cash), len(c.Prices)
	h, e := New(c)
	if e != api.OK {
		t.Fatalf("New: error %d", e)
	}
	for i := range cash {
		h.accounts[i].cash, h.accounts[i].positions[0] = cash[i], positions[i]
	}
	return h
}

func (h *House) cash() []int64 {
	var l []int64
	for _, a := range h.accounts {
		l = append(l, a.cash)
	}
	return l
}

// R10, P9.3, P9.7: losses and spans beyond 64 bits, that are neither kept nor returned.
func TestGreatMargins(t *testing.T) {
	const much = int64(1e13) // of contracts; times a greatest price beyond an int64
	config := Config{Prices: []int64{api.MaxPrice}, Moves: [][]int64{{-api.MaxPrice}, {api.MaxPrice}}}
	h := great(t, config, []int64{math.MaxInt64, math.MaxInt64, math.MaxInt64}, []int64{much, -much, 0})
	if l := h.Calls(); !slices.Equal(l, []int{1, 2}) {
		t.Errorf("Calls: %v", l)
	}
	if e := h.Withdraw(1, 1); e != api.ErrMargin {
		t.Errorf("Withdraw: error %d", e)
	}
	if _, e := h.Trade(Contract{Buyer: 1, Seller: 3, Qty: 1, Price: api.MaxPrice}); e != api.ErrMargin {
		t.Errorf("Trade: error %d", e)
	}
	if n, e := h.Trade(Contract{Buyer: 3, Seller: 1, Qty: 1, Price: api.MaxPrice}); n != 1 || e != api.OK { // less than before
		t.Errorf("Trade: %d, error %d", n, e)
	}

	config = Config{Prices: []int64{api.MaxPrice}, Rate: 1}
	h = great(t, config, []int64{1e16, 1e16 - 1}, []int64{much, -much})
	if m, e := h.Margin(2); m != 1e16 || e != api.OK { // a thousandth of 10^19
		t.Errorf("Margin: %d, error %d", m, e)
	}
	if l := h.Calls(); !slices.Equal(l, []int{2}) {
		t.Errorf("Calls: %v", l)
	}

	// 10^13 gains 10^19 by the first scenario, and loses 10^13 by the second.
	config = Config{Prices: []int64{1}, Moves: [][]int64{{api.MaxPrice}, {-1}}}
	h = great(t, config, []int64{1e13, 0, 5e18}, []int64{much, 0, -much})
	if s, l, e := h.Worst(1); s != 1 || l != 1e13 || e != api.OK {
		t.Errorf("Worst: %d, %d, error %d", s, l, e)
	}
	if l := h.Calls(); !slices.Equal(l, []int{3}) {
		t.Errorf("Calls: %v", l)
	}
}

// R10, P9.7: what a member would miss is in range, though what it gains and what it needs are not.
func TestGreatStress(t *testing.T) {
	const much = int64(1e13)
	config := Config{Prices: []int64{1}, Moves: [][]int64{{api.MaxPrice}}, Rate: 1000}
	h := great(t, config, []int64{-3e13, 0}, []int64{much, 0})
	l, e := h.Stress(0) // it gains 10^19, and needs 10^19 and 10^13
	if e != api.OK || !slices.Equal(l, []int64{4e13, 0}) {
		t.Errorf("Stress: %v, error %d", l, e)
	}
}

// R10, P9.3: a seller that would have less than there are numbers for is refused.
func TestGreatDebt(t *testing.T) {
	h := great(t, Config{Prices: []int64{api.MaxPrice}}, []int64{0, math.MinInt64 + 5}, []int64{0, 0})
	if _, e := h.Trade(Contract{Buyer: 1, Seller: 2, Qty: 1, Price: 1}); e != api.ErrMargin {
		t.Errorf("Trade: error %d", e)
	}
}

// R10, P9.6: the greatest losses, and cash whose sum is beyond 64 bits.
func TestGreatLoss(t *testing.T) {
	most := int64(math.MaxInt64)
	h := great(t, Config{Prices: []int64{1}}, []int64{math.MinInt64, most, most, most}, make([]int64, 4))
	h.accounts[0].fund = 2
	l, e := h.Default(1) // 2^63 - 2 in three shares of 3074457345618258602
	if e != api.OK || l != (Loss{Own: 2, Gains: most - 1}) {
		t.Errorf("Default: %+v, error %d", l, e)
	}
	if got, want := h.cash(), []int64{0, most - 3074457345618258602, most - 3074457345618258602, most - 3074457345618258602}; !slices.Equal(got, want) {
		t.Errorf("cash: %v, want %v", got, want)
	}
	h = great(t, Config{Prices: []int64{1}}, []int64{math.MinInt64, 1, -5}, make([]int64, 3))
	l, e = h.Default(1)
	if e != api.OK || l != (Loss{Gains: 1, Hole: most}) {
		t.Errorf("Default: %+v, error %d", l, e)
	}
}
