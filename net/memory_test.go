package net_test

import (
	"math/rand/v2"
	"reflect"
	"slices"
	"testing"

	"oast/api"
	"oast/net"
)

// fence is what lies beyond the length of an argument, where nobody may read or write.
var fence = []int64{-9, -9, -9}

func fenced(l []int64) []int64 {
	return append(append(make([]int64, 0, len(l)+len(fence)), l...), fence...)[:len(l)]
}

func fencedTable(t [][]int64) [][]int64 {
	c := make([][]int64, len(t), len(t)+1)
	for i, l := range t {
		c[i] = fenced(l)
	}
	c[:len(t)+1][len(t)] = slices.Clone(fence)
	return c
}

// R4, R7: arguments stay as they are, also beyond their length, and the same calls return the same.
func TestArgumentsStay(t *testing.T) {
	r := rand.New(rand.NewPCG(8, 6))
	plain := anyCrisis(r, 6, 50, 0, 20)
	c := net.Crisis{Debts: fencedTable(plain.Debts), Cash: fenced(plain.Cash)}
	cancelled, _, _ := net.Cancel(plain.Debts)
	ranks, pays := fenced([]int64{0, 1, 2, 3, 4, 5}), fenced(pays(plain, nil))
	other := fencedTable(cancelled)
	call := func() []any {
		var l []any
		add := func(x ...any) { l = append(l, x...) }
		add(net.Check(c.Debts), net.CheckCrisis(c))
		a, amount, e := net.Cancel(c.Debts)
		add(a, amount, e)
		two := func(x any, e any) { add(x, e) }
		two(net.Positions(c.Debts))
		two(net.Ranks(c.Debts))
		two(net.Bound(c.Debts, ranks))
		two(net.Ring(c.Debts))
		two(net.Settle(c.Debts))
		two(net.Pairwise(c.Debts))
		two(net.Clear(c))
		two(net.Received(c, pays))
		two(net.Failing(c))
		two(net.Worths(c))
		two(net.Waves(c))
		two(net.Rescue(c, 3))
		add(net.IsCancelling(c.Debts, other), net.IsClearing(c, pays))
		return l
	}
	first := call()
	if again := call(); !reflect.DeepEqual(first, again) {
		t.Errorf("the same calls: %v, then %v", first, again)
	}
	for _, l := range slices.Concat(c.Debts, other, [][]int64{c.Cash, ranks, pays}) {
		if beyond := l[len(l):cap(l)][:len(fence)]; !slices.Equal(beyond, fence) {
			t.Errorf("beyond %v: %v", l, beyond)
		}
	}
	if !slices.Equal(c.Debts[:7][6], fence) || !slices.Equal(other[:7][6], fence) {
		t.Errorf("beyond the tables: %v, %v", c.Debts[:7][6], other[:7][6])
	}
	if !sameTable(c.Debts, plain.Debts) || !slices.Equal(c.Cash, plain.Cash) || !sameTable(other, cancelled) {
		t.Errorf("the arguments are changed: %v, %v", c, other)
	}
	if !slices.Equal(ranks, []int64{0, 1, 2, 3, 4, 5}) || !slices.Equal(pays, allOwed(plain)) {
		t.Errorf("the arguments are changed: %v, %v", ranks, pays)
	}
}

// spoil writes to all the memory of a list.
func spoil(l []int64) {
	for i := range l[:cap(l)] {
		l[:cap(l)][i] = -7
	}
}

// R4: results are new memory: what is written to one of them changes neither another one nor an argument.
func TestResultsAreNew(t *testing.T) {
	debts := [][]int64{{0, 9, 9, 4}, {9, 0, 9, 9}, {9, 9, 0, 9}, {4, 9, 9, 0}}
	c := crisis(copyTable(debts), 0, 0, 0, 0)
	cancelled, _, _ := net.Cancel(c.Debts)
	pairwise, _ := net.Pairwise(with(debts, 0, 3, 5))
	for i, l := range cancelled {
		if !slices.Equal(l, debts[i]) {
			t.Errorf("Cancel(%v): row %d is %v", debts, i, l)
		}
		spoil(l)
	}
	for i, want := range with(none(4), 0, 3, 1) {
		if !slices.Equal(pairwise[i], want) {
			t.Errorf("Pairwise: row %d is %v", i, pairwise[i])
		}
		spoil(pairwise[i])
	}
	pays, _ := net.Clear(c)
	received, _ := net.Received(c, allOwed(c))
	worths, _ := net.Worths(c)
	positions, _ := net.Positions(debts)
	ranks, _ := net.Ranks(debts)
	for _, l := range [][]int64{pays, received, worths, positions, ranks} {
		spoil(l)
	}
	wantCancel(t, c.Debts, sum(debts))
	wantClear(t, c, 22, 27, 27, 22)
	wantReceived(t, c, []int64{22, 27, 27, 22}, api.OK, 22, 27, 27, 22)
	wantWorths(t, c, 0, 0, 0, 0)
	wantPositions(t, debts, 0, 0, 0, 0)
	down := crisis(chain(5, 5, 5, 0), 4, 0, 0, 0)
	waves, _ := net.Waves(down)
	for i, wave := range waves {
		if !slices.Equal(wave, []int{i}) {
			t.Errorf("Waves(%v): %v", down, waves)
		}
		for at := range wave[:cap(wave)] {
			wave[:cap(wave)][at] = -7
		}
	}
	wantWaves(t, down, []int{0}, []int{1}, []int{2})
}
