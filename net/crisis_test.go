package net_test

import (
	"math"
	"math/rand/v2"
	"slices"
	"testing"

	"oast/api"
	"oast/net"
)

// P6.4: what is wrong with a crisis, in this order; all calls say it first.
func TestWrongCrises(t *testing.T) {
	for want, crises := range wrongCrises() {
		for _, c := range crises {
			if e := net.CheckCrisis(c); e != want {
				t.Errorf("CheckCrisis(%v): error %d, want %d", c, e, want)
			}
			if l, e := net.Clear(c); len(l) > 0 || e != want {
				t.Errorf("Clear(%v): %v, error %d, want %d", c, l, e, want)
			}
			wantReceived(t, c, nil, want)
			wantReceived(t, c, make([]int64, len(c.Debts)), want)
			wantReceived(t, c, slices.Repeat([]int64{-1}, len(c.Debts)), want)
			wantClearing(t, c, nil, false)
			wantClearing(t, c, make([]int64, len(c.Debts)), false)
			if l, e := net.Failing(c); len(l) > 0 || e != want {
				t.Errorf("Failing(%v): %v, error %d, want %d", c, l, e, want)
			}
			if l, e := net.Worths(c); len(l) > 0 || e != want {
				t.Errorf("Worths(%v): %v, error %d, want %d", c, l, e, want)
			}
			if l, e := net.Waves(c); len(l) > 0 || e != want {
				t.Errorf("Waves(%v): %v, error %d, want %d", c, l, e, want)
			}
			wantRescue(t, c, 0, 0, want)
			wantRescue(t, c, -1, 0, want)
		}
	}
}

// P6.4: what is valid.
func TestValidCrises(t *testing.T) {
	for _, c := range []net.Crisis{
		pinch(), crisis(none(1), 0), crisis(none(1), api.MaxDebt), crisis(none(2), api.MaxDebt, 0),
		crisis(full(api.MaxParties, api.MaxDebt), slices.Repeat([]int64{api.MaxDebt}, api.MaxParties)...),
	} {
		if e := net.CheckCrisis(c); e != api.OK {
			t.Errorf("CheckCrisis(%v): error %d", c, e)
		}
	}
}

// P6.4: the chapter's example; nobody fails; nobody can pay; the greatest of several clearing payments.
func TestClear(t *testing.T) {
	wantClear(t, pinch(), 7, 3)
	wantClear(t, crisis(none(1), 5), 0)
	wantClear(t, crisis([][]int64{{0, 10}, {3, 0}}, 7, 0), 10, 3)
	wantClear(t, crisis([][]int64{{0, 10}, {0, 0}}, 0, 9), 0, 0)
	wantClear(t, crisis([][]int64{{0, 5}, {5, 0}}, 0, 0), 5, 5)
	wantClear(t, crisis(chain(5, 7, 4), 0, 0, 0), 4, 4, 4)
	wantClear(t, crisis(full(api.MaxParties, api.MaxDebt), make([]int64, api.MaxParties)...), slices.Repeat([]int64{31 * api.MaxDebt}, api.MaxParties)...)
	// 0 has 5 for 1, 2 and 3 alike: each gets 1. 3 owes it all on, and more.
	wantClear(t, crisis([][]int64{{0, 3, 3, 3}, {0, 0, 0, 0}, {0, 0, 0, 0}, {0, 2, 0, 0}}, 5, 0, 0, 0), 5, 0, 0, 1)
	// Any payments of 0 and 1 up to 5 are clearing while 2 gets nothing of it.
	wantClear(t, crisis([][]int64{{0, 5, 0}, {8, 0, 0}, {0, 0, 0}}, 0, 0, 1), 5, 5, 0)
}

// P6.4: what the parties receive: each debt's part is rounded down by itself.
func TestReceived(t *testing.T) {
	wantReceived(t, pinch(), []int64{7, 3}, api.OK, 3, 7)
	wantReceived(t, pinch(), []int64{0, 0}, api.OK, 0, 0)
	wantReceived(t, crisis(none(1), 9), []int64{0}, api.OK, 0)
	wantReceived(t, crisis([][]int64{{0, 1, 2}, {0, 0, 4}, {0, 3, 0}}, 0, 0, 0), []int64{2, 3, 1}, api.OK, 0, 1, 4)
	wantReceived(t, crisis([][]int64{{0, 1, 1}, {0, 0, 0}, {1, 1, 0}}, 0, 0, 0), []int64{1, 0, 1}, api.OK, 0, 0, 0)
	c := crisis(full(api.MaxParties, api.MaxDebt), make([]int64, api.MaxParties)...)
	wantReceived(t, c, slices.Repeat([]int64{31*api.MaxDebt - 1}, api.MaxParties), api.OK, slices.Repeat([]int64{31 * (api.MaxDebt - 1)}, api.MaxParties)...)
	crises(1, 200, func(r *rand.Rand, c net.Crisis) {
		var pays, want []int64
		for party := range c.Debts {
			pays = append(pays, r.Int64N(owed(c.Debts, party)+1))
		}
		for party := range c.Debts {
			want = append(want, receives(c, pays, party))
		}
		wantReceived(t, c, pays, api.OK, want...)
	})
}

// P6.4: what is wrong with payments: first their number, then any of them.
func TestWrongPayments(t *testing.T) {
	for _, pays := range [][]int64{nil, {}, {7}, {7, 3, 0}, {-1}, {11, 3, 0}} {
		wantReceived(t, pinch(), pays, api.ErrShape)
		wantClearing(t, pinch(), pays, false)
	}
	for _, pays := range [][]int64{{-1, 3}, {11, 3}, {7, -1}, {7, 4}, {math.MinInt64, 3}, {7, math.MaxInt64}} {
		wantReceived(t, pinch(), pays, api.ErrArg)
		wantClearing(t, pinch(), pays, false)
	}
	wantReceived(t, crisis(none(2), 5, 5), []int64{0, 1}, api.ErrArg)
	wantClearing(t, crisis(none(2), 5, 5), []int64{1, 0}, false)
}

// P6.4: clearing payments need not be the greatest.
func TestIsClearing(t *testing.T) {
	wantClearing(t, pinch(), []int64{7, 3}, true)
	wantClearing(t, pinch(), []int64{7, 2}, false)
	wantClearing(t, pinch(), []int64{6, 3}, false)
	wantClearing(t, pinch(), []int64{4, 0}, false)
	wantClearing(t, crisis(none(2), 5, 5), []int64{0, 0}, true)
	for x := range int64(6) {
		wantClearing(t, crisis([][]int64{{0, 5}, {5, 0}}, 0, 0), []int64{x, x}, true)
		wantClearing(t, crisis([][]int64{{0, 5}, {5, 0}}, 0, 1), []int64{x, x}, x == 5)
	}
}

// P6.4, P6.9: of all payments that are clearing, Clear's are the greatest for every party.
func TestClearIsTheGreatest(t *testing.T) {
	r := rand.New(rand.NewPCG(2, 6))
	for range 150 {
		c := anyCrisis(r, 1+r.IntN(4), 3, 0, 2)
		best, e := net.Clear(c)
		if e != api.OK || !isClearing(c, best) {
			t.Fatalf("Clear(%v): %v, error %d", c, best, e)
		}
		each(allOwed(c), func(pays []int64) {
			ok := isClearing(c, pays)
			wantClearing(t, c, pays, ok)
			for party := range pays {
				if ok && pays[party] > best[party] {
					t.Errorf("Clear(%v): %v, but %v are clearing", c, best, pays)
				}
			}
		})
	}
}

// P6.5, P6.6: the chapter's example; and who fails though it owes nothing: nobody.
func TestWhoFails(t *testing.T) {
	wantFailing(t, pinch(), 0)
	wantWorths(t, pinch(), 0, 4)
	wantWaves(t, pinch(), []int{0})
	wantRescue(t, pinch(), 0, 3, api.OK)
	wantRescue(t, pinch(), 1, 0, api.OK)
	rich := richer(pinch(), 0, 3)
	wantFailing(t, rich)
	wantWorths(t, rich, 0, 7)
	wantWaves(t, rich)
	wantFailing(t, crisis(none(2), 0, 3))
	wantWorths(t, crisis(none(2), 0, 3), 0, 3)
	wantWaves(t, crisis(none(2), 0, 3))
	wantRescue(t, crisis(none(2), 0, 3), 0, 0, api.OK)
	// What is lost by rounding is lost to all.
	lossy := crisis([][]int64{{0, 3, 3}, {0, 0, 0}, {0, 0, 0}}, 5, 0, 1)
	wantFailing(t, lossy, 0)
	wantWorths(t, lossy, 0, 2, 3)
}

// P6.5: failure goes down a chain, one party a wave; also against the parties' numbers, and several in one wave.
func TestWaves(t *testing.T) {
	down := crisis(chain(10, 10, 10, 0), 9, 0, 0, 0)
	wantWaves(t, down, []int{0}, []int{1}, []int{2})
	wantFailing(t, down, 0, 1, 2)
	up := crisis([][]int64{{0, 0, 0}, {10, 0, 0}, {0, 10, 0}}, 0, 0, 9)
	wantWaves(t, up, []int{2}, []int{1})
	wantFailing(t, up, 1, 2)
	wantWaves(t, crisis(chain(10, 10, 10, 0), 9, 0, 1, 0), []int{0}, []int{1})
	wantWaves(t, crisis(chain(10, 10, 10, 0), 9, 9, 9, 0), []int{0})
	wantWaves(t, crisis(chain(10, 11, 12, 0), 9, 0, 0, 0), []int{0, 1, 2})
	// 0 fails, and brings down 1, which owes it: so 0 pays still less, and that brings down 2.
	back := crisis([][]int64{{0, 10, 10, 0}, {10, 0, 0, 0}, {0, 0, 0, 10}, {0, 0, 0, 0}}, 8, 0, 1, 0)
	wantWaves(t, back, []int{0}, []int{1}, []int{2})
	wantClear(t, back, 16, 8, 9, 0)
	long := slices.Repeat([]int64{5}, api.MaxParties)
	long[api.MaxParties-1] = 0
	var want [][]int
	for party := range api.MaxParties - 1 {
		want = append(want, []int{party})
	}
	wantWaves(t, crisis(chain(long...), append([]int64{4}, make([]int64, 31)...)...), want...)
}

// P6.5, P6.9: waves, failing parties and worths as the chapter defines them; the waves together are those that fail.
func TestFailingByDefinition(t *testing.T) {
	waved := map[int]int{}
	crises(3, 1500, func(_ *rand.Rand, c net.Crisis) {
		p := pays(c, count(len(c.Debts)))
		var worths []int64
		for party := range p {
			worths = append(worths, c.Cash[party]+receives(c, p, party)-p[party])
		}
		wantClear(t, c, p...)
		wantClearing(t, c, p, true)
		wantFailing(t, c, failing(c)...)
		wantWorths(t, c, worths...)
		wantWaves(t, c, waves(c)...)
		l, _ := net.Waves(c)
		waved[len(l)]++
		all := slices.Sorted(slices.Values(slices.Concat(l...)))
		if !slices.Equal(all, failing(c)) {
			t.Errorf("Waves(%v): %v, but %v fail", c, l, failing(c))
		}
	})
	if waved[0] == 0 || waved[1] == 0 || waved[2] == 0 || waved[3] == 0 {
		t.Errorf("the crises have few waves: %v", waved)
	}
}

// P6.6: with so much more cash the party does not fail, with 1 less it does; also beyond the greatest cash.
func TestRescue(t *testing.T) {
	wantRescue(t, crisis([][]int64{{0, 7}, {0, 0}}, 2, 0), 0, 5, api.OK)
	wantRescue(t, crisis([][]int64{{0, 7}, {7, 0}}, 0, 0), 0, 0, api.OK)
	one := none(api.MaxParties)
	for party := 1; party < api.MaxParties; party++ {
		one[0][party] = api.MaxDebt
	}
	wantRescue(t, crisis(one, make([]int64, api.MaxParties)...), 0, 31*api.MaxDebt, api.OK)
	// What it pays comes back to it: 0 lacks 10, but if it pays 10 it gets 8 of it from 1.
	wantRescue(t, crisis([][]int64{{0, 10}, {8, 0}}, 0, 0), 0, 2, api.OK)
	crises(4, 400, func(r *rand.Rand, c net.Crisis) {
		party := r.IntN(len(c.Debts))
		least, e := net.Rescue(c, party)
		if e != api.OK || least < 0 || fails(richer(c, party, least), party) || least > 0 && !fails(richer(c, party, least-1), party) {
			t.Errorf("Rescue(%v, %d): %d, error %d", c, party, least, e)
		}
	})
}

// P6.6: a party that there is not.
func TestRescueOfNobody(t *testing.T) {
	for _, party := range []int{-1, 2, 3, 32, 64, math.MinInt, math.MaxInt} {
		wantRescue(t, pinch(), party, 0, api.ErrArg)
	}
	full := crisis(full(api.MaxParties, 1), make([]int64, api.MaxParties)...)
	wantRescue(t, full, api.MaxParties, 0, api.ErrArg)
	wantRescue(t, full, api.MaxParties-1, 0, api.OK)
}

// P6.8, W4: what all receive is at most what all pay, and the difference is at most the number of debts.
func TestNothingAppears(t *testing.T) {
	crises(5, 400, func(_ *rand.Rand, c net.Crisis) {
		paid, e := net.Clear(c)
		received, _ := net.Received(c, paid)
		debts := int64(0)
		for i := range c.Debts {
			for _, debt := range c.Debts[i] {
				debts += min(debt, 1)
			}
		}
		lost := sum([][]int64{paid}) - sum([][]int64{received})
		if e != api.OK || lost < 0 || lost > debts {
			t.Errorf("Clear(%v): %v, error %d, receives %v", c, paid, e, received)
		}
		worths, _ := net.Worths(c)
		if sum([][]int64{worths})+lost != sum([][]int64{c.Cash}) || slices.Min(worths) < 0 {
			t.Errorf("Worths(%v): %v, %d lost", c, worths, lost)
		}
	})
}

// P6.9: more cash makes nobody pay less, and nobody else fail.
func TestMoreCash(t *testing.T) {
	crises(6, 400, func(r *rand.Rand, c net.Crisis) {
		party := r.IntN(len(c.Debts))
		more := richer(c, party, r.Int64N(api.MaxDebt-c.Cash[party]+1)>>r.IntN(20))
		before, _ := net.Clear(c)
		after, e := net.Clear(more)
		for party := range before {
			if e != api.OK || after[party] < before[party] {
				t.Errorf("Clear(%v): %v; with more cash %v, error %d: %v", c, before, more.Cash, e, after)
			}
		}
		failed, _ := net.Failing(c)
		fails, _ := net.Failing(more)
		for _, party := range fails {
			if !slices.Contains(failed, party) {
				t.Errorf("Failing(%v): %v; with more cash %v: %v", c, failed, more.Cash, fails)
			}
		}
	})
}

// P1: crises in which the payments come down by 1 a round end soon enough: what 0 pays goes round by two ways, and is rounded
// at both.
func TestSlowCrises(t *testing.T) {
	three := crisis([][]int64{{0, 999983, 17}, {999982, 0, 0}, {17, 0, 0}}, 0, 0, 0)
	wantClear(t, three, 0, 0, 0)
	wantWaves(t, three, []int{0}, []int{2}, []int{1})
	wantRescue(t, three, 0, 1, api.OK)
	wantRescue(t, three, 1, 1, api.OK)
	order := rand.New(rand.NewPCG(7, 6)).Perm(api.MaxParties)
	long := none(api.MaxParties)
	for i := range 31 {
		long[order[i]][order[(i+1)%31]] = 99982
	}
	long[order[0]][order[1]]++
	long[order[0]][order[31]] = 17
	long[order[31]][order[0]] = 17
	wantClear(t, crisis(long, make([]int64, api.MaxParties)...), make([]int64, api.MaxParties)...)
	wide := full(api.MaxParties, 0)
	for i := range wide {
		for j := range i {
			wide[i][j] = 10000 + int64(i*j%7)
			wide[j][i] = wide[i][j]
		}
	}
	wide[0][1]--
	c := crisis(wide, make([]int64, api.MaxParties)...)
	wantClear(t, c, pays(c, count(api.MaxParties))...)
}
