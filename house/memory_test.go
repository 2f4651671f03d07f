package house_test

import (
	"fmt"
	"testing"

	"oast/api"
	"oast/house"
)

// R4: New neither keeps nor changes the lists that it gets, nor what lies beyond their length.
func TestArgumentsStay(t *testing.T) {
	prices, moves := []int64{100, 50, -7}, [][]int64{{10, 5, -7}, {-20, -5, -7}, {1}}
	c := house.Config{Members: 2, Months: 2, Prices: prices[:2], Moves: [][]int64{moves[0][:2], moves[1][:2]}, Rate: 5}
	all := fmt.Sprint(prices, moves)
	h := newHouse(t, c)
	deposit(t, h, 1000, 1000)
	trade(t, h, 1, 2, 1, 3)
	mark(t, h, 1, 60)
	if got := fmt.Sprint(prices, moves); got != all {
		t.Errorf("changed: %s, was %s", got, all)
	}
	f := h.Fork()
	was := pictureOf(h)
	clear(prices)
	clear(moves[0])
	clear(moves[1])
	c.Moves[0] = nil
	for _, x := range []*house.House{h, f} {
		if got := pictureOf(x); got != was {
			t.Errorf("%s, was %s", got, was)
		}
	}
}

// spoil writes to all the memory of a list.
func spoil[T any](l []T, x T) {
	l = l[:cap(l)]
	for i := range l {
		l[i] = x
	}
}

// R4: results are new memory: what is written to them changes neither the house nor another result.
func TestResultsAreNew(t *testing.T) {
	h := called(t)
	f := h.Fork()
	was := pictureOf(h)
	for range 2 {
		a, _ := h.Account(1)
		b, _ := h.Account(1)
		calls, again := h.Calls(), h.Calls()
		stress, _ := h.Stress(1)
		other, _ := h.Stress(1)
		spoil(a.Positions, -99)
		spoil(calls, -99)
		spoil(stress, -99)
		if b.Positions[0] != 5 || again[0] != 1 || other[0] == -99 {
			t.Error("two results share memory")
		}
		marked, e := h.Mark(0, 85)
		wantOK(t, "Mark", e)
		spoil(marked, -99)
	}
	if got := pictureOf(h); got != was {
		t.Errorf("%s, was %s", got, was)
	}
	if got := pictureOf(f); got != was {
		t.Errorf("the fork: %s, was %s", got, was)
	}
}

// P9.7: a fork is in the same state, and neither of the two changes the other.
func TestFork(t *testing.T) {
	changes := map[string]func(h *house.House) api.Errno{
		"Deposit":    func(h *house.House) api.Errno { return h.Deposit(3, 5) },
		"Withdraw":   func(h *house.House) api.Errno { return h.Withdraw(3, 5) },
		"Contribute": func(h *house.House) api.Errno { return h.Contribute(3, 5) },
		"Trade":      func(h *house.House) api.Errno { _, e := h.Trade(contract(3, 2, 0, 1, 80)); return e },
		"Deliver":    func(h *house.House) api.Errno { return h.Deliver(1, 2, 0, 2) },
		"Mark":       func(h *house.House) api.Errno { _, e := h.Mark(0, 50); return e },
		"Default":    func(h *house.House) api.Errno { _, e := h.Default(1); return e },
	}
	for name, change := range changes {
		h := called(t)
		mark(t, h, 0, 60) // member 1 has less than nothing
		f := h.Fork()
		was := pictureOf(h)
		if got := pictureOf(f); got != was {
			t.Errorf("the fork is %s, its house %s", got, was)
		}
		wantOK(t, name, change(f))
		went := pictureOf(f)
		if got := pictureOf(h); got != was || went == was {
			t.Errorf("%s of the fork: its house is %s, was %s", name, got, was)
		}
		wantOK(t, name, change(h))
		if got := pictureOf(h); got != went {
			t.Errorf("%s: the house is %s, its fork %s", name, got, went)
		}
		wantOK(t, "Deposit", h.Deposit(2, 1))
		if got := pictureOf(f); got != went {
			t.Errorf("a change of the house after %s: the fork is %s, was %s", name, got, went)
		}
	}
}

// P9.7: houses that share their first contracts do not write over those of one another, however many there are.
func TestForksWriteForThemselves(t *testing.T) {
	for length := range 10 {
		h := free(t, 2, 0, 100)
		for i := range length {
			wantTraded(t, h, contract(1, 2, 0, int64(i+1), 100), i+1)
		}
		houses := []*house.House{h, h.Fork(), h.Fork()}
		houses = append(houses, houses[1].Fork())
		for round := range 2 {
			for i, x := range houses {
				wantTraded(t, x, contract(1, 2, 0, int64(100*(i+1)+round), 100), length+round+1)
			}
		}
		for i, x := range houses {
			for n := range length {
				wantContract(t, x, n+1, contract(1, 2, 0, int64(n+1), 100))
			}
			wantContract(t, x, length+1, contract(1, 2, 0, int64(100*(i+1)), 100))
			wantContract(t, x, length+2, contract(1, 2, 0, int64(100*(i+1)+1), 100))
		}
	}
}

func wantContract(t *testing.T, h *house.House, n int, want house.Contract) {
	t.Helper()
	if c, e := h.Contract(n); c != want || e != api.OK {
		t.Errorf("Contract(%d): %+v, error %d, want %+v", n, c, e, want)
	}
}
