package settle_test

import (
	"slices"
	"testing"

	"oast/api"
	"oast/settle"
)

// R4: New neither keeps nor changes the lists that it gets, nor what lies beyond their length.
func TestArgumentsStay(t *testing.T) {
	money, goods := []int64{10, 0, -1}, []int64{0, 5, -1}
	w := newWorld(t, 3, money[:2], goods[:2])
	wantBegun(t, w, deal(1, 2, 7, 2), 1)
	wantHealed(t, w, 11, 0)
	if !slices.Equal(money, []int64{10, 0, -1}) || !slices.Equal(goods, []int64{0, 5, -1}) {
		t.Errorf("changed: %v, %v", money, goods)
	}
	f := w.Fork()
	clear(money)
	clear(goods)
	for _, x := range []*settle.World{w, f} {
		wantBalances(t, x, 1, 3, 7)
		wantBalances(t, x, 2, 2, 3)
		wantFree(t, x, 1, 3, 7)
	}
}

// spoil writes to all the memory of a list.
func spoil[T any](l []T) {
	clear(l[:cap(l)])
}

// R4: results are new memory: what is written to them changes neither the world nor another result.
func TestResultsAreNew(t *testing.T) {
	for _, steps := range []int{0, 1, 3, 5} { // also before there is a record
		w := begun(t)
		wantBegun(t, w, deal(1, 2, 2, 2), 2)
		deliver(t, w, steps)
		f := w.Fork()
		was := pictureOf(w)
		for range 2 {
			bag, deals := w.Bag(), w.Deals()
			money, _ := w.Balances(1)
			goods, _ := w.Balances(2)
			freeMoney, _ := w.Free(1)
			freeGoods, _ := w.Free(2)
			spoil(bag)
			spoil(deals)
			spoil(money)
			spoil(goods)
			if slices.Max(freeMoney) == 0 || slices.Max(freeGoods) == 0 {
				t.Error("two results share memory")
			}
			spoil(freeMoney)
			spoil(freeGoods)
		}
		if got := pictureOf(w); got != was {
			t.Errorf("%s, was %s", got, was)
		}
		if got := pictureOf(f); got != was {
			t.Errorf("the fork: %s, was %s", got, was)
		}
	}
}

// P8.6: a fork has all that its world has, of what is not told too: fuses, votes, ticks, acknowledgements.
func TestForkHasTheSame(t *testing.T) {
	for _, x := range []struct{ before, after string }{
		{"", "Ask1 Ask2 Yes1 Yes2 Do1 Do2"},
		{"Ask1 Yes1 tick0 tick0", "tick0"},
		{"Ask1 Yes1", "tick0 Ask2 Yes2 tick0"},
		{"Ask1 Ask2 Yes1 Yes2 Do1 Ack1", "tick0 Do2 Ack2 tick0"},
		{"tick0 tick0 tick0 Drop1 Ack1", "tick0 Drop2 Ack2 tick0"},
		{"fuse1", "Ask1 up1 tick1"},
		{"fuse1 Ask1", "up1 tick1"},
		{"fuse1 Ask1", "crash1 up1 tick1"},
		{"Ask1 fuse1", "Ask2 Yes1 Yes2 Do1 crash1 up1"},
		{"Ask1 Ask2 Yes1 fuse0 Yes2", "up0 tick0"},
		{"Ask1 Ask2 Yes1 fuse0 Yes2", "crash0 up0 tick0"},
		{"crash2", "Ask2 up2 tick0"},
	} {
		w := begun(t)
		play(t, w, x.before)
		f := w.Fork()
		was := pictureOf(w)
		if got := pictureOf(f); got != was {
			t.Errorf("%+v: the fork is %s, its world %s", x, got, was)
		}
		play(t, f, x.after)
		if got := pictureOf(w); got != was {
			t.Errorf("%+v: the fork changed its world: %s, was %s", x, got, was)
		}
		went := pictureOf(f)
		play(t, w, x.after)
		if got := pictureOf(w); got != went {
			t.Errorf("%+v: the world went to %s, its fork to %s", x, got, went)
		}
		if got := pictureOf(f); got != went {
			t.Errorf("%+v: the world changed its fork: %s, was %s", x, got, went)
		}
	}
}

// P8.6: worlds that share the beginning of their logs do not write into those of one another, however long they are.
func TestForksWriteForThemselves(t *testing.T) {
	for length := range 9 {
		w := rich(t, 3)
		for i := range length {
			wantBegun(t, w, deal(1, 2, 1, 2), i+1)
			deliver(t, w, 8)
		}
		worlds := []*settle.World{w, w.Fork(), w.Fork()}
		worlds = append(worlds, worlds[1].Fork())
		for i, x := range worlds {
			wantBegun(t, x, deal(1, 2, int64(10+i), int64(20+i)), length+1)
			wantBegun(t, x, deal(2, 1, int64(50+10*i), int64(70+10*i)), length+2)
		}
		for range 8 { // in turns, so that each would write where the one before did
			for _, x := range worlds {
				deliver(t, x, 2)
			}
		}
		for i, x := range worlds {
			moved := int64(40 + 9*i - length)
			wantBalances(t, x, 1, api.MaxMoney+moved, api.MaxMoney-moved)
			moved = int64(50 + 9*i - 2*length)
			wantBalances(t, x, 2, api.MaxMoney-moved, api.MaxMoney+moved)
			if got, want := x.Deals()[length], deal(1, 2, int64(10+i), int64(20+i)); got != want {
				t.Errorf("world %d: %v, want %v", i, got, want)
			}
		}
	}
}

// P8.6: a crash that loses a record leaves it to the forks, also when another record is written in its place.
func TestForkKeepsWhatACrashLoses(t *testing.T) {
	w := example(t)
	wantBegun(t, w, deal(1, 2, 7, 2), 1)
	wantBegun(t, w, deal(1, 2, 5, 1), 2)
	wantOK(t, "Fuse", w.Fuse(1, 1))
	deliver(t, w, 1)
	f := w.Fork()
	was := pictureOf(f)
	wantOK(t, "Crash", w.Crash(1, 0))
	wantOK(t, "Restart", w.Restart(1))
	wantOK(t, "Deliver", w.Deliver(1))
	wantAt(t, w, 1, 1, 0)
	wantAt(t, w, 1, 2, settle.Prepared)
	wantFree(t, w, 1, 5, 0)
	if got := pictureOf(f); got != was {
		t.Errorf("the fork is %s, was %s", got, was)
	}

	// The other way: the fork crashes.
	g := f.Fork()
	wantOK(t, "Crash", g.Crash(1, 0))
	wantOK(t, "Restart", g.Restart(1))
	wantOK(t, "Deliver", g.Deliver(1))
	wantAt(t, g, 1, 2, settle.Prepared)
	if got := pictureOf(f); got != was {
		t.Errorf("the world of a fork is %s, was %s", got, was)
	}
}

// R7: the same calls lead to the same world.
func TestSameCalls(t *testing.T) {
	script := "+Ask1 Ask2 fuse1 Ask1 tick0 tick2 up1 Ask1 Yes2 Yes1 Do2 crash2 tick0 up2 Do1 tick2"
	w, v := begun(t), begun(t)
	play(t, w, script)
	play(t, v, script)
	if got, want := pictureOf(v), pictureOf(w); got != want {
		t.Errorf("%s, then %s", want, got)
	}
}
