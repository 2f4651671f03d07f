package settle_test

import (
	"testing"

	"oast/api"
	"oast/settle"
)

// P8.5: rounds that are out of range, before anything is healed.
func TestHealRefuses(t *testing.T) {
	w := begun(t)
	play(t, w, "crash1 fuse0")
	for _, rounds := range outside(0, 1000) {
		wantRefused(t, "Heal", w, api.ErrArg, func() api.Errno {
			n, e := w.Heal(rounds)
			if n != 0 {
				t.Errorf("Heal(%d): %d next to error %d", rounds, n, e)
			}
			return e
		})
	}
	play(t, w, "up1 Ask1 Ask2 Yes1 Yes2")
	wantUp(t, w, 0, false) // the fuse was still there
}

// P8.5: no round at all brings the nodes up and takes the fuses away, and the messages wait.
func TestHealWithoutRounds(t *testing.T) {
	w := begun(t)
	play(t, w, "fuse1 Ask1 crash2 fuse2 fuse0")
	wantHealed(t, w, 0, 1)
	wantBag(t, w, message(0, 2, settle.Ask, 1))
	for node := range 3 {
		wantUp(t, w, node, true)
	}
	wantLog(t, w, 1, 1, 1)
	wantAt(t, w, 1, 1, settle.Prepared)
	wantState(t, w, 1, settle.Asking)
	play(t, w, "Ask2 tick1 Yes1 Yes2 Do1 Do2")
	for node := range 3 {
		wantUp(t, w, node, true)
	}
	wantAt(t, w, 1, 1, settle.Done)

	w = begun(t)
	play(t, w, "crash0")
	wantHealed(t, w, 0, 2)
	wantState(t, w, 1, settle.Unknown)
}

// P8.5: a round delivers what waited when it began, in its order, and then the nodes tick.
func TestRounds(t *testing.T) {
	rounds := []struct {
		bag   string
		state int
	}{
		{"Yes1 Yes2 Ask1 Ask2 Yes1 Yes2", settle.Asking},
		{"Do1 Do2 Yes1 Yes2 Do1 Do2 Do1 Do2 Yes1 Yes2", settle.Doing},
		// Done, and prepared no more; the votes get one more order each, the second orders one more Ack each.
		{"Ack1 Ack2 Do1 Do2 Ack1 Ack2 Ack1 Ack2 Do1 Do2 Do1 Do2", settle.Doing},
		{"Ack1 Ack2 Ack1 Ack2 Ack1 Ack2", settle.Over},
		{"", settle.Over},
		{"", settle.Over},
	}
	w := begun(t)
	for i, x := range rounds {
		n, e := w.Heal(1)
		if bag := w.Bag(); n != len(bag) || e != api.OK || words(bag) != x.bag {
			t.Errorf("round %d: %d, %s, error %d, want %s", i+1, n, words(bag), e, x.bag)
		}
		wantState(t, w, 1, x.state)
	}
	wantBalances(t, w, 1, 3, 7)
	wantBalances(t, w, 2, 2, 3)
}

// P8.5: so many rounds in one call are as many calls of one round.
func TestRoundsAddUp(t *testing.T) {
	for rounds := range 12 {
		w := newWorld(t, 3, []int64{10, 0}, []int64{0, 5})
		for i := range 4 {
			wantBegun(t, w, deal(1, 2, 4, 2), i+1)
		}
		f := w.Fork()
		n, e := w.Heal(rounds)
		for range rounds {
			_, e := f.Heal(1)
			wantOK(t, "Heal", e)
		}
		if got, want := pictureOf(w), pictureOf(f); got != want || n != len(f.Bag()) || e != api.OK {
			t.Errorf("Heal(%d): %d, error %d, %s, want %s", rounds, n, e, got, want)
		}
	}
}

// P8.8, P8.10: a deal whose goods site crashes between the vote and the delivery is done when it is up again; one whose
// coordinator crashes before the decision is done nowhere, and nothing is held.
func TestCrashesAndHeal(t *testing.T) {
	for _, x := range []struct {
		script string
		done   bool
	}{
		{"", true},
		{"Ask1 Ask2 Yes1 Yes2 crash2 Do1 Do2", true},
		{"Ask1 Ask2 Yes1 Yes2 crash0 crash1 crash2", true},
		{"Ask1 Ask2 Yes1 Yes2 -Do1 -Do2 crash0", true},
		{"Ask1 Ask2 Yes1 crash0 Yes2", false},
		{"Ask1 Ask2 Yes1 crash0 up0 Yes2", false},
		{"Ask1 Ask2 -Yes1 -Yes2", true},
		{"Ask1 crash1 crash2 -Ask2", true},
		{"-Ask1 -Ask2", true},
		{"crash0", false},
		{"crash0 Ask1 Ask2", false},
		{"tick0 tick0 tick0", false},
		{"tick0 tick0 tick0 Drop1 Drop2", false},
		{"Ask1 Ask2 Yes1 fuse0 Yes2", true},
		{"Ask1 Ask2 Yes1 fuse0 Yes2 crash0", false},
		{"Ask1 Ask2 Yes1 Yes2 fuse2 Do2", true},
		{"Ask1 Ask2 Yes1 Yes2 fuse2 Do2 crash2", true},
		{"fuse2 Ask2 crash2", true},
	} {
		w := begun(t)
		play(t, w, x.script)
		wantTogether(t, w)
		wantHealed(t, w, 3+8, 0)
		wantEnded(t, w)
		if done := w.At(1, 1) == settle.Done; done != x.done {
			t.Errorf("done: %v", done)
		}
		want := map[bool][2][]int64{true: {{3, 7}, {2, 3}}, false: {{10, 0}, {0, 5}}}[x.done]
		wantBalances(t, w, 1, want[0]...)
		wantBalances(t, w, 2, want[1]...)
		if t.Failed() {
			t.Fatal(x.script)
		}
	}
}

// P8.11: what is done stays done, through crashes, late messages and more of them.
func TestDoneStays(t *testing.T) {
	w := begun(t)
	play(t, w, "+Ask1 +Ask2 +Ask1 +Ask2 Ask1 Ask2 Ask1 Ask2 +Yes1 +Yes2 +Yes1 Yes1 Yes2 +Do1 Do1")
	for node := range 3 {
		wantOK(t, "Crash", w.Crash(node, 0))
		wantAt(t, w, 1, 1, settle.Done)
		wantOK(t, "Restart", w.Restart(node))
	}
	for range 200 {
		if len(w.Bag()) == 0 {
			wantOK(t, "Tick", w.Tick(0))
			wantOK(t, "Tick", w.Tick(2))
		}
		if len(w.Bag()) > 0 {
			deliver(t, w, 1)
		}
		wantAt(t, w, 1, 1, settle.Done)
		wantTogether(t, w)
	}
	wantAt(t, w, 2, 1, settle.Done)
	wantState(t, w, 1, settle.Over)
}
