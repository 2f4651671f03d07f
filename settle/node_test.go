package settle_test

import (
	"math"
	"strings"
	"testing"

	"oast/api"
	"oast/settle"
)

// The chapter's examples.
func TestExamples(t *testing.T) {
	w := example(t)
	wantBegun(t, w, deal(1, 2, 7, 2), 1)
	wantBag(t, w, message(0, 1, settle.Ask, 1), message(0, 2, settle.Ask, 1))
	deliver(t, w, 2)
	wantBag(t, w, message(1, 0, settle.Yes, 1), message(2, 0, settle.Yes, 1))
	deliver(t, w, 2)
	wantBag(t, w, message(0, 1, settle.Do, 1), message(0, 2, settle.Do, 1))
	deliver(t, w, 1)
	wantBalances(t, w, 1, 3, 7)
	wantBalances(t, w, 2, 0, 5)
	wantFree(t, w, 2, 0, 3)

	wantOK(t, "Crash", w.Crash(2, 0))
	wantOK(t, "Restart", w.Restart(2))
	wantAt(t, w, 2, 1, settle.Prepared)
	wantFree(t, w, 2, 0, 3)
	loseAll(t, w)
	wantOK(t, "Tick", w.Tick(2))
	wantBag(t, w, message(2, 0, settle.Yes, 1))
	deliver(t, w, 1)
	wantBag(t, w, message(0, 2, settle.Do, 1))
	wantHealed(t, w, 11, 0)
	wantBalances(t, w, 2, 2, 3)

	wantBegun(t, w, deal(1, 2, 4, 1), 2)
	deliver(t, w, 1)
	wantBag(t, w, message(0, 2, settle.Ask, 2), message(1, 0, settle.No, 2))
	deliver(t, w, 2)
	wantState(t, w, 2, settle.Dropping)
}

// begun is the example's world with a deal that both sites can do.
func begun(t *testing.T) *settle.World {
	t.Helper()
	w := example(t)
	wantBegun(t, w, deal(1, 2, 7, 2), 1)
	return w
}

// What a site knows: what is held is not free until the deal is dropped, and what a done deal brought is.
func TestHeld(t *testing.T) {
	w := newWorld(t, 1, []int64{10, 1}, []int64{0, 5})
	for i, money := range []int64{7, 4, 3, 1, 0} {
		wantBegun(t, w, deal(1, 2, money, 1), i+1)
	}
	for i, want := range []int{settle.Prepared, 0, settle.Prepared, 0, settle.Prepared} {
		wantOK(t, "Deliver", w.Deliver(i))
		wantAt(t, w, 1, i+1, want)
	}
	wantBalances(t, w, 1, 10, 1)
	wantFree(t, w, 1, 0, 1)
	loseAll(t, w)
	wantOK(t, "Tick", w.Tick(0))
	deliver(t, w, 1)
	wantAt(t, w, 1, 1, settle.Dropped)
	wantBalances(t, w, 1, 10, 1)
	wantFree(t, w, 1, 7, 1)

	w = newWorld(t, 1, []int64{10, 1}, []int64{0, 5})
	wantBegun(t, w, deal(1, 2, 7, 2), 1)
	deliver(t, w, 5)
	wantBalances(t, w, 1, 3, 8)
	wantFree(t, w, 1, 3, 8)
	loseAll(t, w)
	wantBegun(t, w, deal(2, 1, 9, 0), 2)
	wantBegun(t, w, deal(2, 1, 8, 0), 3)
	wantOK(t, "Deliver", w.Deliver(0))
	wantOK(t, "Deliver", w.Deliver(1))
	wantAt(t, w, 1, 2, 0)
	wantAt(t, w, 1, 3, settle.Prepared)
	wantFree(t, w, 1, 3, 0)
}

// An account suffices if its free part is all that the leg takes, be it 0.
func TestEnough(t *testing.T) {
	for _, x := range []struct {
		has, takes int64
		mark       int
	}{{0, 0, settle.Prepared}, {0, 1, 0}, {1, 1, settle.Prepared}, {7, 8, 0}, {8, 8, settle.Prepared}, {api.MaxMoney, api.MaxMoney, settle.Prepared}, {api.MaxMoney - 1, api.MaxMoney, 0}} {
		w := newWorld(t, 1, []int64{x.has, 5}, []int64{5, x.has})
		wantBegun(t, w, deal(1, 2, x.takes, x.takes), 1)
		deliver(t, w, 2)
		wantAt(t, w, 1, 1, x.mark)
		wantAt(t, w, 2, 1, x.mark)
	}
}

// A tick takes the deals by their numbers, whatever order they came in.
func TestTickInOrder(t *testing.T) {
	w := rich(t, 3)
	for i := range 5 {
		wantBegun(t, w, deal(1, 2, 1, 1), i+1)
	}
	for _, i := range []int{8, 2, 2, 0} {
		wantOK(t, "Deliver", w.Deliver(i))
	}
	yes := []settle.Message{message(1, 0, settle.Yes, 5), message(1, 0, settle.Yes, 2), message(2, 0, settle.Yes, 2), message(1, 0, settle.Yes, 1)}
	wantBag(t, w, append(w.Bag()[:6], yes...)...)
	for range 3 {
		wantOK(t, "Deliver", w.Deliver(6))
	}
	wantState(t, w, 2, settle.Doing)
	loseAll(t, w)
	wantOK(t, "Tick", w.Tick(1))
	wantBag(t, w, message(1, 0, settle.Yes, 1), message(1, 0, settle.Yes, 2), message(1, 0, settle.Yes, 5))
	loseAll(t, w)
	wantOK(t, "Tick", w.Tick(0))
	wantBag(t, w, message(0, 1, settle.Ask, 1), message(0, 2, settle.Ask, 1), message(0, 1, settle.Do, 2), message(0, 2, settle.Do, 2),
		message(0, 1, settle.Ask, 3), message(0, 2, settle.Ask, 3), message(0, 1, settle.Ask, 4), message(0, 2, settle.Ask, 4), message(0, 2, settle.Ask, 5))
}

// The first tick ends the patience of a world with a Patience of 1, and the last one that of a world with 1000.
func TestPatience(t *testing.T) {
	for _, patience := range []int{1, 2, 1000} {
		w := rich(t, patience)
		wantBegun(t, w, deal(1, 2, 1, 1), 1)
		for range patience - 1 {
			loseAll(t, w)
			wantOK(t, "Tick", w.Tick(0))
			wantState(t, w, 1, settle.Asking)
			wantBag(t, w, message(0, 1, settle.Ask, 1), message(0, 2, settle.Ask, 1))
		}
		wantBegun(t, w, deal(1, 2, 1, 1), 2)
		loseAll(t, w)
		wantOK(t, "Tick", w.Tick(0))
		wantState(t, w, 1, settle.Dropping)
		if patience > 1 { // each deal waits for itself
			wantState(t, w, 2, settle.Asking)
			wantBag(t, w, message(0, 1, settle.Drop, 1), message(0, 2, settle.Drop, 1), message(0, 1, settle.Ask, 2), message(0, 2, settle.Ask, 2))
		}
	}
}

// P8.4: the errors, in their order.
func TestNodesRefuse(t *testing.T) {
	w := begun(t)
	deliver(t, w, 1)
	for _, node := range outside(0, 2) {
		for _, n := range []int{-1, 0, 1} {
			wantRefused(t, "Tick", w, api.ErrNone, func() api.Errno { return w.Tick(node) })
			wantRefused(t, "Crash", w, api.ErrNone, func() api.Errno { return w.Crash(node, n) })
			wantRefused(t, "Restart", w, api.ErrNone, func() api.Errno { return w.Restart(node) })
			wantRefused(t, "Fuse", w, api.ErrNone, func() api.Errno { return w.Fuse(node, n) })
		}
	}
	for node := range 3 {
		for _, n := range []int{-1, math.MinInt} {
			wantRefused(t, "Crash", w, api.ErrArg, func() api.Errno { return w.Crash(node, n) })
			wantRefused(t, "Fuse", w, api.ErrArg, func() api.Errno { return w.Fuse(node, n) })
		}
		wantRefused(t, "Restart", w, api.ErrState, func() api.Errno { return w.Restart(node) })
		wantOK(t, "Crash", w.Crash(node, 0))
		wantRefused(t, "Tick", w, api.ErrDown, func() api.Errno { return w.Tick(node) })
		wantRefused(t, "Crash", w, api.ErrArg, func() api.Errno { return w.Crash(node, -1) })
		wantRefused(t, "Crash", w, api.ErrDown, func() api.Errno { return w.Crash(node, 0) })
		wantRefused(t, "Fuse", w, api.ErrArg, func() api.Errno { return w.Fuse(node, -1) })
		wantOK(t, "Fuse", w.Fuse(node, 1))
		wantRefused(t, "Crash", w, api.ErrDown, func() api.Errno { return w.Crash(node, 0) })
		wantOK(t, "Restart", w.Restart(node))
		wantRefused(t, "Restart", w, api.ErrState, func() api.Errno { return w.Restart(node) })
	}
}

// P8.4: a fuse that is refused leaves the fuse as it is.
func TestRefusedFuse(t *testing.T) {
	w := begun(t)
	wantOK(t, "Fuse", w.Fuse(1, 1))
	if e := w.Fuse(1, -1); e != api.ErrArg {
		t.Errorf("Fuse: error %d", e)
	}
	if e := w.Crash(1, -1); e != api.ErrArg {
		t.Errorf("Crash: error %d", e)
	}
	play(t, w, "Ask1")
	wantUp(t, w, 1, false)
}

// P8.4: a crash of a node whose records are all safe loses none of them.
func TestCrashKeepsTheLog(t *testing.T) {
	for _, kept := range []int{0, 1, math.MaxInt} {
		w := begun(t)
		deliver(t, w, 5)
		for node, want := range []int{1, 2, 1} {
			wantOK(t, "Crash", w.Crash(node, kept))
			wantUp(t, w, node, false)
			wantLog(t, w, node, want, want)
		}
		wantState(t, w, 1, settle.Unknown)
		wantBalances(t, w, 1, 3, 7)
		wantFree(t, w, 2, 0, 3)
		for node, want := range []int{1, 2, 1} {
			wantOK(t, "Restart", w.Restart(node))
			wantUp(t, w, node, true)
			wantLog(t, w, node, want, want)
		}
		wantState(t, w, 1, settle.Doing)
		wantAt(t, w, 1, 1, settle.Done)
		wantAt(t, w, 2, 1, settle.Prepared)
	}
}

// P8.4: what a crash of the coordinator leaves of each state.
func TestCoordinatorForgets(t *testing.T) {
	w := rich(t, 4)
	for i := range 5 {
		wantBegun(t, w, deal(1, 2, 1, 1), i+1)
	}
	deliver(t, w, 4) // the asks of the deals 1 and 2
	for range 4 {
		wantOK(t, "Deliver", w.Deliver(6))
	}
	for range 4 {
		wantOK(t, "Deliver", w.Deliver(6)) // Do of both deals
	}
	wantOK(t, "Deliver", w.Deliver(6))
	wantOK(t, "Deliver", w.Deliver(6))
	for range 4 {
		wantOK(t, "Tick", w.Tick(0))
	}
	wantBegun(t, w, deal(1, 2, 1, 1), 6)
	for i, want := range []int{settle.Over, settle.Doing, settle.Dropping, settle.Dropping, settle.Dropping, settle.Asking} {
		wantState(t, w, i+1, want)
	}
	wantOK(t, "Crash", w.Crash(0, 9))
	for i := range 6 {
		wantState(t, w, i+1, settle.Unknown)
	}
	loseAll(t, w)
	wantOK(t, "Restart", w.Restart(0))
	for i, want := range []int{settle.Doing, settle.Doing, 0, 0, 0, 0} {
		wantState(t, w, i+1, want)
	}
	wantOK(t, "Tick", w.Tick(0))
	wantBag(t, w, message(0, 1, settle.Do, 1), message(0, 2, settle.Do, 1), message(0, 1, settle.Do, 2), message(0, 2, settle.Do, 2))
	if n := len(w.Deals()); n != 6 {
		t.Errorf("%d deals", n)
	}
	wantBegun(t, w, deal(1, 2, 1, 1), 7)
	wantState(t, w, 7, settle.Asking)
}

// burnt is a world in which a sync of a kind burnt out, the node of it, and how many records were safe before.
type burnt struct {
	what        string
	node, safe  int
	script      string
	with, lacks int // what is known of the deal with the record, and without it, when the node is up
}

func burns() []burnt {
	return []burnt{
		{"Prepared at the money site", 1, 0, "fuse1 Ask1", settle.Prepared, 0},
		{"Prepared at the goods site", 2, 0, "fuse2 Ask2", settle.Prepared, 0},
		{"Done at the money site", 1, 1, "Ask1 Ask2 Yes1 Yes2 fuse1 Do1", settle.Done, settle.Prepared},
		{"Done at the goods site", 2, 1, "Ask1 Ask2 Yes1 Yes2 fuse2 Do2", settle.Done, settle.Prepared},
		{"Dropped at the money site", 1, 1, "Ask1 tick0 tick0 tick0 fuse1 Drop1", settle.Dropped, settle.Prepared},
		{"Dropped at the goods site", 2, 1, "Ask2 tick0 tick0 tick0 fuse2 Drop2", settle.Dropped, settle.Prepared},
		{"Decided", 0, 0, "Ask1 Ask2 Yes1 fuse0 Yes2", settle.Doing, settle.Unknown},
	}
}

// known is what a node knows of the first deal.
func known(w *settle.World, node int) int {
	if node == 0 {
		return w.State(1)
	}
	return w.At(node, 1)
}

// P8.4: a sync that burns out: the node is down at once, nothing is sent, and the record stays, but not safe.
func TestBurnOut(t *testing.T) {
	for _, x := range burns() {
		w := begun(t)
		last := strings.LastIndex(x.script, " ") + 1
		play(t, w, x.script[:last])
		wantSent(t, w, x.script[last:], "")
		wantUp(t, w, x.node, false)
		wantLog(t, w, x.node, x.safe+1, x.safe)
		if x.node == 0 {
			wantState(t, w, 1, settle.Unknown)
		} else {
			wantAt(t, w, x.node, 1, x.with)
		}
		wantRefused(t, "Tick", w, api.ErrDown, func() api.Errno { return w.Tick(x.node) })
		wantRefused(t, "Crash", w, api.ErrArg, func() api.Errno { return w.Crash(x.node, -1) })
		if t.Failed() {
			t.Fatal(x.what)
		}
	}
}

// P8.4: a crash decides about the records that are not safe, once; a restart keeps all of them.
func TestBehindTheBurnOut(t *testing.T) {
	for _, x := range burns() {
		for _, kept := range []int{-1, 0, 1, 2, math.MaxInt} {
			w := begun(t)
			play(t, w, x.script)
			all, want := x.safe+1, x.with
			if kept == 0 {
				all, want = x.safe, x.lacks
			}
			if kept >= 0 {
				wantOK(t, "Crash", w.Crash(x.node, kept))
				wantUp(t, w, x.node, false)
				wantLog(t, w, x.node, all, all)
				wantRefused(t, "Crash", w, api.ErrDown, func() api.Errno { return w.Crash(x.node, 0) })
				if x.node > 0 {
					wantAt(t, w, x.node, 1, want)
				}
			}
			wantOK(t, "Restart", w.Restart(x.node))
			wantUp(t, w, x.node, true)
			wantLog(t, w, x.node, all, all)
			if got := known(w, x.node); got != want {
				t.Errorf("%d is known, want %d", got, want)
			}
			// All is safe now.
			wantOK(t, "Crash", w.Crash(x.node, 0))
			wantLog(t, w, x.node, all, all)
			wantHealed(t, w, 11, 0)
			wantEnded(t, w)
			wantTogether(t, w)
			if t.Failed() {
				t.Fatal(x.what, kept)
			}
		}
	}
}

// P8.6: what the accounts have while the record of a sync that burnt out is there, and when it is not.
func TestAccountsBehindTheBurnOut(t *testing.T) {
	w := begun(t)
	play(t, w, "fuse1 Ask1")
	wantBalances(t, w, 1, 10, 0)
	wantFree(t, w, 1, 3, 0)
	wantOK(t, "Crash", w.Crash(1, 0))
	wantFree(t, w, 1, 10, 0)

	w = begun(t)
	play(t, w, "Ask1 Ask2 Yes1 Yes2 fuse2 Do2")
	wantBalances(t, w, 2, 2, 3)
	wantFree(t, w, 2, 2, 3)
	wantOK(t, "Crash", w.Crash(2, 0))
	wantBalances(t, w, 2, 0, 5)
	wantFree(t, w, 2, 0, 3)

	w = begun(t)
	play(t, w, "Ask2 tick0 tick0 tick0 fuse2 Drop2")
	wantFree(t, w, 2, 0, 5)
	wantOK(t, "Crash", w.Crash(2, 0))
	wantFree(t, w, 2, 0, 3)
}

// syncs delivers Asks to node 1, and tells how many syncs it takes until the node is down.
func syncs(t *testing.T, w *settle.World) int {
	t.Helper()
	for i := range 20 {
		if !w.Up(1) {
			return i
		}
		n, e := w.Begin(deal(1, 2, 0, 0))
		wantOK(t, "Begin", e)
		bag := w.Bag()
		at := len(bag) - 2
		if bag[at] != message(0, 1, settle.Ask, n) {
			t.Fatalf("%v", bag)
		}
		wantOK(t, "Deliver", w.Deliver(at))
	}
	return -1
}

// P8.4: the n-th sync burns out, the first one if n is 0; a later fuse replaces an earlier one; crashes, restarts and Heal take it away.
func TestFuse(t *testing.T) {
	for n, want := range []int{1, 1, 2, 3, 4} {
		w := rich(t, 3)
		wantOK(t, "Fuse", w.Fuse(1, n))
		wantOK(t, "Tick", w.Tick(1))
		if got := syncs(t, w); got != want {
			t.Errorf("Fuse(1, %d): burnt at sync %d", n, got)
		}
		wantLog(t, w, 1, want, want-1)
		// It burns out once.
		wantOK(t, "Restart", w.Restart(1))
		if got := syncs(t, w); got != -1 {
			t.Errorf("Fuse(1, %d): burnt at sync %d once more", n, got)
		}
	}
	for _, x := range []struct {
		what   string
		change func(w *settle.World) api.Errno
		want   int
	}{
		{"a longer one", func(w *settle.World) api.Errno { return w.Fuse(1, 5) }, 5},
		{"a shorter one", func(w *settle.World) api.Errno { return w.Fuse(1, 0) }, 1},
		{"a very long one", func(w *settle.World) api.Errno { return w.Fuse(1, math.MaxInt) }, -1},
		{"that of another node", func(w *settle.World) api.Errno { return w.Fuse(2, 1) }, 3},
		{"a crash", func(w *settle.World) api.Errno { return w.Crash(1, 0) }, 0},
		{"a crash and a restart", func(w *settle.World) api.Errno { return max(w.Crash(1, 0), w.Restart(1)) }, -1},
		{"a fuse while it is down", func(w *settle.World) api.Errno { return max(w.Crash(1, 0), w.Fuse(1, 1), w.Restart(1)) }, -1},
		{"Heal", func(w *settle.World) api.Errno { _, e := w.Heal(0); return e }, -1},
		{"a fuse while it is down, and Heal", func(w *settle.World) api.Errno {
			e := max(w.Crash(1, 0), w.Fuse(1, 2))
			_, f := w.Heal(0)
			return max(e, f)
		}, -1},
	} {
		w := rich(t, 3)
		wantOK(t, "Fuse", w.Fuse(1, 4))
		wantBegun(t, w, deal(1, 2, 0, 0), 1)
		deliver(t, w, 1)
		wantUp(t, w, 1, true)
		loseAll(t, w)
		wantOK(t, x.what, x.change(w))
		if got := syncs(t, w); got != x.want {
			t.Errorf("%s: burnt at sync %d, want %d", x.what, got, x.want)
		}
	}
}

// P8.4: a fuse counts syncs, not messages: what needs no record does not shorten it.
func TestFuseCountsSyncs(t *testing.T) {
	w := begun(t)
	play(t, w, "+Ask1 +Ask1 +Ask1 Ask1 fuse1 Ask1 Ask1 Ask1 tick1")
	wantUp(t, w, 1, true)
	wantLog(t, w, 1, 1, 1)
	play(t, w, "Ask2 Yes1 Yes2 Do1")
	wantUp(t, w, 1, false)
	wantLog(t, w, 1, 2, 1)
}

// P8.4: a fuse that is laid at a burnt node does not keep a crash from deciding what is kept.
func TestFuseOfABurntNode(t *testing.T) {
	w := begun(t)
	play(t, w, "fuse1 Ask1")
	wantOK(t, "Fuse", w.Fuse(1, 1))
	wantLog(t, w, 1, 1, 0)
	wantOK(t, "Crash", w.Crash(1, 0))
	wantLog(t, w, 1, 0, 0)
	wantOK(t, "Restart", w.Restart(1))
	if got := syncs(t, w); got != -1 {
		t.Errorf("burnt at sync %d", got)
	}
}

// P8.4: a burnt fuse's messages to the node are lost while it is down, and change nothing of its log.
func TestMessagesToABurntNode(t *testing.T) {
	w := begun(t)
	play(t, w, "+Ask1 fuse1 Ask1 Ask1")
	wantBag(t, w, message(0, 2, settle.Ask, 1))
	wantLog(t, w, 1, 1, 0)
}
