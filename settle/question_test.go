package settle_test

import (
	"slices"
	"testing"

	"oast/api"
	"oast/settle"
)

// P8.6: questions about nodes and deals that there are not.
func TestNoSuchThing(t *testing.T) {
	w := begun(t)
	deliver(t, w, 5)
	for _, node := range outside(0, 2) {
		wantUp(t, w, node, false)
		wantLog(t, w, node, 0, 0)
	}
	for _, node := range outside(1, 2) { // 0, the coordinator, has no accounts and no marks
		wantAt(t, w, node, 1, 0)
		if l, e := w.Balances(node); len(l) != 0 || e != api.ErrNone {
			t.Errorf("Balances(%d): %v, error %d", node, l, e)
		}
		if l, e := w.Free(node); len(l) != 0 || e != api.ErrNone {
			t.Errorf("Free(%d): %v, error %d", node, l, e)
		}
	}
	for _, deal := range append(outside(1, 1), 3, 1000, 1001) {
		wantState(t, w, deal, settle.Unknown)
		wantAt(t, w, 1, deal, 0)
		wantAt(t, w, 2, deal, 0)
	}
	wantState(t, w, 1, settle.Doing)
	wantAt(t, w, 1, 1, settle.Done)
	wantAt(t, w, 2, 1, settle.Prepared)
}

// P8.6: a site that is down tells what its log determines, a coordinator that is down nothing.
func TestQuestionsToNodesThatAreDown(t *testing.T) {
	w := begun(t)
	deliver(t, w, 5)
	play(t, w, "crash0 crash1 crash2")
	for node := range 3 {
		wantUp(t, w, node, false)
	}
	wantState(t, w, 1, settle.Unknown)
	wantAt(t, w, 1, 1, settle.Done)
	wantAt(t, w, 2, 1, settle.Prepared)
	wantBalances(t, w, 1, 3, 7)
	wantFree(t, w, 1, 3, 7)
	wantBalances(t, w, 2, 0, 5)
	wantFree(t, w, 2, 0, 3)
	wantLog(t, w, 0, 1, 1)
	wantLog(t, w, 1, 2, 2)
	wantLog(t, w, 2, 1, 1)
	wantBag(t, w, message(0, 2, settle.Do, 1), message(1, 0, settle.Ack, 1))
	if l := w.Deals(); !slices.Equal(l, []settle.Deal{deal(1, 2, 7, 2)}) {
		t.Errorf("Deals: %v", l)
	}
}

// P8.7: calls of a nil World.
func TestNil(t *testing.T) {
	var w *settle.World
	none := func(n int, e api.Errno) api.Errno {
		if n != 0 {
			t.Errorf("%d next to error %d", n, e)
		}
		return e
	}
	empty := func(l []int64, e api.Errno) api.Errno {
		if len(l) != 0 {
			t.Errorf("%v next to error %d", l, e)
		}
		return e
	}
	for _, i := range []int{-1, 0, 1, 2, 3, 2000} {
		errors := map[string]api.Errno{
			"Begin": none(w.Begin(deal(1, 2, 1, 1))), "Begin of nothing": none(w.Begin(settle.Deal{})),
			"Deliver": w.Deliver(i), "Lose": w.Lose(i), "Copy": w.Copy(i), "Tick": w.Tick(i),
			"Crash": w.Crash(i, i), "Crash with less": w.Crash(0, -1), "Restart": w.Restart(i), "Fuse": w.Fuse(i, i), "Fuse with less": w.Fuse(0, -1),
			"Heal": none(w.Heal(i)), "Balances": empty(w.Balances(i)), "Free": empty(w.Free(i)),
		}
		for call, e := range errors {
			if e != api.ErrNil {
				t.Errorf("%s with %d: error %d", call, i, e)
			}
		}
		wantUp(t, w, i, false)
		wantState(t, w, i, 0)
		wantAt(t, w, i, i, 0)
		wantAt(t, w, 1, 1, 0)
		wantLog(t, w, i, 0, 0)
	}
	wantBag(t, w)
	if l := w.Deals(); len(l) != 0 {
		t.Errorf("Deals: %v", l)
	}
	if f := w.Fork(); f != nil {
		t.Errorf("Fork: %v", f)
	}
}
