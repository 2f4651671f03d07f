package settle_test

import (
	"fmt"
	"math"
	"slices"
	"testing"

	"oast/api"
	"oast/settle"
)

const (
	maxDeals   = 1000
	maxWaiting = 3000 // with more messages than that, Begin and Copy are refused
)

// newWorld is a world of as many members as there are balances.
func newWorld(t *testing.T, patience int, money, goods []int64) *settle.World {
	t.Helper()
	w, e := settle.New(settle.Config{Members: len(money), Patience: patience, Money: money, Goods: goods})
	if w == nil || e != api.OK {
		t.Fatalf("New: %v, error %d", w, e)
	}
	return w
}

// example is the world of the chapter's first example.
func example(t *testing.T) *settle.World {
	t.Helper()
	return newWorld(t, 3, []int64{10, 0}, []int64{0, 5})
}

// rich is a world of two members in which no account lacks anything.
func rich(t *testing.T, patience int) *settle.World {
	t.Helper()
	return newWorld(t, patience, []int64{api.MaxMoney, api.MaxMoney}, []int64{api.MaxMoney, api.MaxMoney})
}

func deal(buyer, seller int, money, goods int64) settle.Deal {
	return settle.Deal{Buyer: buyer, Seller: seller, Money: money, Goods: goods}
}

func message(from, to, kind, deal int) settle.Message {
	return settle.Message{From: from, To: to, Kind: kind, Deal: deal}
}

// wantBegun begins a deal that gets the number.
func wantBegun(t *testing.T, w *settle.World, d settle.Deal, number int) {
	t.Helper()
	if n, e := w.Begin(d); n != number || e != api.OK {
		t.Errorf("Begin(%v): %d, error %d, want %d", d, n, e, number)
	}
}

// wantOK asks whether a call returned OK.
func wantOK(t *testing.T, what string, e api.Errno) {
	t.Helper()
	if e != api.OK {
		t.Errorf("%s: error %d", what, e)
	}
}

// deliver delivers the first messages, as many as it is told.
func deliver(t *testing.T, w *settle.World, messages int) {
	t.Helper()
	for range messages {
		wantOK(t, "Deliver(0)", w.Deliver(0))
	}
}

// loseAll empties the bag.
func loseAll(t *testing.T, w *settle.World) {
	t.Helper()
	for range w.Bag() {
		wantOK(t, "Lose(0)", w.Lose(0))
	}
}

// wantHealed heals a world for some rounds, behind which so many messages wait.
func wantHealed(t *testing.T, w *settle.World, rounds, waiting int) {
	t.Helper()
	if n, e := w.Heal(rounds); n != waiting || e != api.OK {
		t.Errorf("Heal(%d): %d, error %d, want %d", rounds, n, e, waiting)
	}
}

func wantBag(t *testing.T, w *settle.World, want ...settle.Message) {
	t.Helper()
	if got := w.Bag(); !slices.Equal(got, want) {
		t.Errorf("Bag: %v, want %v", got, want)
	}
}

func wantBalances(t *testing.T, w *settle.World, node int, want ...int64) {
	t.Helper()
	if got, e := w.Balances(node); e != api.OK || !slices.Equal(got, want) {
		t.Errorf("Balances(%d): %v, error %d, want %v", node, got, e, want)
	}
}

func wantFree(t *testing.T, w *settle.World, node int, want ...int64) {
	t.Helper()
	if got, e := w.Free(node); e != api.OK || !slices.Equal(got, want) {
		t.Errorf("Free(%d): %v, error %d, want %v", node, got, e, want)
	}
}

func wantState(t *testing.T, w *settle.World, deal, want int) {
	t.Helper()
	if got := w.State(deal); got != want {
		t.Errorf("State(%d): %d, want %d", deal, got, want)
	}
}

func wantAt(t *testing.T, w *settle.World, node, deal, want int) {
	t.Helper()
	if got := w.At(node, deal); got != want {
		t.Errorf("At(%d, %d): %d, want %d", node, deal, got, want)
	}
}

func wantUp(t *testing.T, w *settle.World, node int, want bool) {
	t.Helper()
	if got := w.Up(node); got != want {
		t.Errorf("Up(%d): %v, want %v", node, got, want)
	}
}

func wantLog(t *testing.T, w *settle.World, node, all, safe int) {
	t.Helper()
	if a, s := w.Log(node); a != all || s != safe {
		t.Errorf("Log(%d): %d, %d, want %d, %d", node, a, s, all, safe)
	}
}

// wantRefused makes a call that is refused, and has no effect.
func wantRefused(t *testing.T, what string, w *settle.World, want api.Errno, call func() api.Errno) {
	t.Helper()
	was := pictureOf(w)
	if e := call(); e != want {
		t.Errorf("%s: error %d, want %d", what, e, want)
	}
	if got := pictureOf(w); got != was {
		t.Errorf("%s: the world is %s, was %s", what, got, was)
	}
}

// wantNotBegun begins a deal that is refused.
func wantNotBegun(t *testing.T, w *settle.World, d settle.Deal, want api.Errno) {
	t.Helper()
	wantRefused(t, fmt.Sprintf("Begin(%v)", d), w, want, func() api.Errno {
		n, e := w.Begin(d)
		if n != 0 {
			t.Errorf("Begin(%v): %d next to error %d", d, n, e)
		}
		return e
	})
}

// picture is all that a world tells of itself.
type picture struct {
	bag            []settle.Message
	deals          []settle.Deal
	states         []int
	up             [3]bool
	logs           [3][2]int
	marks          [3][]int
	balances, free [3][]int64
}

// pictureOf is the picture of a world as a string, in which an empty slice and nil are the same.
func pictureOf(w *settle.World) string {
	p := picture{bag: w.Bag(), deals: w.Deals()}
	for node := range 3 {
		p.up[node] = w.Up(node)
		p.logs[node][0], p.logs[node][1] = w.Log(node)
		p.balances[node], _ = w.Balances(node)
		p.free[node], _ = w.Free(node)
		for i := range p.deals {
			p.marks[node] = append(p.marks[node], w.At(node, i+1))
		}
	}
	for i := range p.deals {
		p.states = append(p.states, w.State(i+1))
	}
	return fmt.Sprint(p)
}

// outside are numbers that are not from least to most.
func outside(least, most int) []int {
	return []int{math.MinInt, least - 1, most + 1, math.MaxInt}
}

// wantTogether asks for P8.8: no deal is done at one site without being prepared or done at the other.
func wantTogether(t *testing.T, w *settle.World) {
	t.Helper()
	for i := range w.Deals() {
		a, b := w.At(1, i+1), w.At(2, i+1)
		if a == settle.Done && b != settle.Done && b != settle.Prepared || b == settle.Done && a != settle.Done && a != settle.Prepared {
			t.Errorf("deal %d: %d at the money site, %d at the goods site", i+1, a, b)
		}
	}
}

// wantSums asks for P8.9: the balances of each site have a sum, and no balance and no free part is negative.
func wantSums(t *testing.T, w *settle.World, money, goods int64) {
	t.Helper()
	for i, want := range []int64{money, goods} {
		balances, e := w.Balances(i + 1)
		free, f := w.Free(i + 1)
		sum := int64(0)
		for k := range balances {
			sum += balances[k]
			if free[k] < 0 || balances[k] < free[k] {
				t.Errorf("node %d, member %d: balance %d, %d of it free", i+1, k+1, balances[k], free[k])
			}
		}
		if sum != want || e != api.OK || f != api.OK {
			t.Errorf("node %d: the sum is %d, want %d, errors %d, %d", i+1, sum, want, e, f)
		}
	}
}

// wantEnded asks for what P8.10 promises of a healed world.
func wantEnded(t *testing.T, w *settle.World) {
	t.Helper()
	for i := range w.Deals() {
		a, b := w.At(1, i+1), w.At(2, i+1)
		if a == settle.Prepared || b == settle.Prepared || (a == settle.Done) != (b == settle.Done) {
			t.Errorf("deal %d: %d at the money site, %d at the goods site", i+1, a, b)
		}
	}
	for node := 1; node <= 2; node++ {
		balances, _ := w.Balances(node)
		wantFree(t, w, node, balances...)
	}
}
