package pair_test

import (
	"math/rand/v2"
	"slices"
	"testing"

	"oast/api"
	"oast/pair"
)

// wrongSwaps are swaps that are not valid, by the error that CheckSwap returns.
func wrongSwaps() map[api.Errno][]pair.Swap {
	long := make([][]int, 65)
	l := map[api.Errno][]pair.Swap{
		api.ErrLong: {swap(long...), swap(append([][]int{{-1}}, long...)...), swap(make([][]int, 1000)...)},
		api.ErrList: {
			swap([]int{1}), swap([]int{-1}), swap([]int{0, 0}), swap([]int{0}, []int{1, 1}), swap([]int{1, 0, 1}, []int{0}),
			swap(nil, nil, []int{3}), swap([]int{1, 0, 0}, nil), swap([]int{0, 7}, nil), swap(make([]int, 99), nil),
		},
	}
	for _, x := range notNumbers {
		l[api.ErrList] = append(l[api.ErrList], swap([]int{1, x}, []int{0}), swap([]int{1}, []int{x}))
	}
	return l
}

// P5.7: CheckSwap names what is wrong, and the others return it.
func TestWrongSwaps(t *testing.T) {
	for want, swaps := range wrongSwaps() {
		for _, s := range swaps {
			if e := pair.CheckSwap(s); e != want {
				t.Errorf("CheckSwap(%v): error %d, want %d", s, e, want)
			}
			if l, e := pair.Core(s); e != want || len(l) != 0 {
				t.Errorf("Core(%v): %v, error %d, want error %d", s, l, e, want)
			}
			if l, e := pair.Rings(s); e != want || len(l) != 0 {
				t.Errorf("Rings(%v): %v, error %d, want error %d", s, l, e, want)
			}
			wantBetter(t, s, count(len(s.Lists)), false)
			wantBetter(t, s, shift(len(s.Lists), 1), false)
			wantBetter(t, s, nil, false)
		}
	}
}

// P5.7: swaps of all sizes are valid.
func TestValidSwaps(t *testing.T) {
	full := pair.Swap{Lists: circle(64).Growers}
	for _, s := range []pair.Swap{{}, swap(nil), swap([]int{0}), swap(make([][]int, 64)...), full, swap([]int{1, 0}, []int{0})} {
		if e := pair.CheckSwap(s); e != api.OK {
			t.Errorf("CheckSwap(%v): error %d", s, e)
		}
	}
}

// P5.7: the chapter's examples.
func TestSwaps(t *testing.T) {
	s := swap([]int{1, 2}, []int{2, 0}, []int{0, 1})
	wantCore(t, s, 1, 2, 0)
	wantRings(t, s, []int{0, 1, 2})
	s = swap([]int{1}, []int{0}, []int{0})
	wantCore(t, s, 1, 0, 2)
	wantRings(t, s, []int{0, 1}, []int{2})
}

// P5.7: who has its own slot on its list takes none after it, and who has no list keeps its slot.
func TestOwnSlots(t *testing.T) {
	wantCore(t, pair.Swap{})
	wantRings(t, pair.Swap{})
	wantCore(t, swap(nil), 0)
	wantRings(t, swap(nil), []int{0})
	wantCore(t, swap(nil, nil), 0, 1)
	wantRings(t, swap(nil, nil), []int{0}, []int{1})
	wantCore(t, swap([]int{0, 1}, []int{0}), 0, 1)
	wantCore(t, swap([]int{1, 0}, []int{0}), 1, 0)
	wantCore(t, swap([]int{1}, []int{1, 0}), 0, 1)
	wantCore(t, swap([]int{2, 0, 1}, nil, []int{1, 2, 0}), 0, 1, 2)
	wantCore(t, swap([]int{2, 0, 1}, nil, []int{1, 0}), 2, 1, 0)
}

// P5.7: a ring begins with its least member, whoever led to it, and rings are ordered by that.
func TestRings(t *testing.T) {
	wantRings(t, swap([]int{3}, []int{3}, []int{3}, []int{2}), []int{0}, []int{1}, []int{2, 3})
	wantRings(t, swap([]int{4, 1}, []int{4, 0}, []int{4}, []int{2}, []int{3}), []int{0, 1}, []int{2, 4, 3})
	wantRings(t, swap([]int{5}, []int{4}, []int{3}, []int{2}, []int{1}, []int{0}), []int{0, 5}, []int{1, 4}, []int{2, 3})
	wantCore(t, swap([]int{4, 1}, []int{4, 0}, []int{4}, []int{2}, []int{3}), 1, 0, 4, 2, 3)
	n := 64
	next := pair.Swap{}
	for i := range n {
		next.Lists = append(next.Lists, []int{(i + 1) % n})
	}
	wantRings(t, next, count(n))
	wantCore(t, next, shift(n, 1)...)
	wantCore(t, swap(slices.Repeat([][]int{count(n)}, n)...), count(n)...)
}

// P5.7: in a large swap, each ring closes among those who were left.
func TestLargeSwaps(t *testing.T) {
	r := rand.New(rand.NewPCG(7, 5))
	for range 60 {
		n := 1 + r.IntN(64)
		s := pair.Swap{Lists: anyLists(r, n, n)}
		core, _ := pair.Core(s)
		rings, _ := pair.Rings(s)
		var members []int
		for i, ring := range rings {
			if slices.Min(ring) != ring[0] || i > 0 && rings[i-1][0] >= ring[0] {
				t.Errorf("Rings(%v): %v is not in order", s, rings)
			}
			for j, member := range ring {
				if core[member] != ring[(j+1)%len(ring)] {
					t.Errorf("Rings(%v): %v does not fit %v", s, rings, core)
				}
			}
			members = append(members, ring...)
		}
		slices.Sort(members)
		if !slices.Equal(members, count(n)) {
			t.Errorf("Rings(%v): %v", s, rings)
		}
		wantNoGain(t, s, core)
	}
}

// wantNoGain asks that no ring of members has a member who gains and none who loses against the outcome: that from the
// slot which a member likes better no way over slots that are liked no less leads back to it.
func wantNoGain(t *testing.T, s pair.Swap, l []int) {
	t.Helper()
	n := len(l)
	leads := make([][]bool, n)
	for a := range n {
		leads[a] = make([]bool, n)
		for b := range n {
			leads[a][b] = a == b || worth(s, a, b) >= worth(s, a, l[a])
		}
	}
	for via := range n {
		for a := range n {
			for b := range n {
				leads[a][b] = leads[a][b] || leads[a][via] && leads[via][b]
			}
		}
	}
	for a := range n {
		for b := range n {
			if worth(s, a, b) > worth(s, a, l[a]) && leads[b][a] {
				t.Errorf("Core(%v): %v: member %d could get slot %d", s, l, a, b)
			}
		}
	}
}

// P5.7: coalitions of one, of two and of all; of none if somebody would like it less.
func TestBetter(t *testing.T) {
	three := swap([]int{1, 2}, []int{2, 0}, []int{0, 1})
	wantBetter(t, three, []int{0, 1, 2}, true)
	wantBetter(t, three, []int{2, 0, 1}, true)
	wantBetter(t, three, []int{1, 0, 2}, true)
	wantBetter(t, three, []int{1, 2, 0}, false)
	wantBetter(t, swap(nil, nil), []int{1, 0}, true)
	wantBetter(t, swap(nil, nil), []int{0, 1}, false)
	wantBetter(t, swap([]int{1}, nil), []int{0, 1}, false)
	wantBetter(t, swap([]int{1}, []int{0}), []int{0, 1}, true)
	wantBetter(t, swap([]int{1}, nil), []int{1, 0}, true)
	wantBetter(t, swap([]int{0, 1}, []int{0}), []int{1, 0}, true)
	wantBetter(t, swap([]int{1, 0}, []int{0}), []int{1, 0}, false)
	wantBetter(t, pair.Swap{}, nil, false)
	wantBetter(t, swap(nil), []int{0}, false)
}

// P5.7: one member likes it better, another as much as what it has.
func TestBetterWithoutEqualGain(t *testing.T) {
	s := swap([]int{1}, []int{2, 0}, []int{0})
	wantBetter(t, s, []int{1, 2, 0}, false)
	wantBetter(t, s, []int{1, 0, 2}, true)
	if c, _ := pair.Better(s, []int{1, 0, 2}); !slices.Equal(c, []int{0, 1, 2}) {
		t.Errorf("Better(%v): %v, want all three", s, c)
	}
	alone := swap(nil, []int{0}, nil)
	if c, ok := pair.Better(alone, []int{2, 0, 1}); !ok || !isCoalition(alone, []int{2, 0, 1}, c) {
		t.Errorf("Better(%v): %v, %v", alone, c, ok)
	}
}

// P5.7: what is no outcome has no coalition, nor has one of more than 12 members.
func TestNoOutcomes(t *testing.T) {
	three := swap([]int{1, 2}, []int{2, 0}, []int{0, 1})
	for _, l := range [][]int{nil, {}, {0, 1}, {0, 1, 2, 3}, {0, 1, 1}, {0, 0, 0}, {0, 1, 3}, {-1, 1, 2}, {-1, -1, -1}} {
		wantBetter(t, three, l, false)
	}
	for _, x := range notNumbers {
		wantBetter(t, three, []int{0, 1, x}, false)
	}
	for n := 2; n <= 64; n++ {
		s := pair.Swap{Lists: circle(n).Growers}
		wantBetter(t, s, count(n), false)
		wantBetter(t, s, shift(n, 1), n <= 12)
	}
}
