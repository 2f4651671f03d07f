package settle_test

import (
	"slices"
	"strings"
	"testing"

	"oast/api"
	"oast/settle"
)

// The names of the kinds of messages. Ask, Do and Drop go to a site, Yes, No and Ack come from one.
var names = []string{settle.Ask: "Ask", settle.Yes: "Yes", settle.No: "No", settle.Do: "Do", settle.Drop: "Drop", settle.Ack: "Ack"}

// word is a message of the first deal as a word: Ask1 is Ask to node 1, Yes2 is Yes from node 2.
func word(m settle.Message) string {
	return names[m.Kind] + string(rune('0'+m.From+m.To))
}

func words(l []settle.Message) string {
	var all []string
	for _, m := range l {
		all = append(all, word(m))
	}
	return strings.Join(all, " ")
}

// place is where the first message that a word means is in the bag.
func place(t *testing.T, w *settle.World, name string) int {
	t.Helper()
	i := slices.IndexFunc(w.Bag(), func(m settle.Message) bool { return word(m) == name })
	if i < 0 {
		t.Fatalf("no %s in %s", name, words(w.Bag()))
	}
	return i
}

// play does what the words of a script say: Ask1 delivers that message, +Ask1 copies it, -Ask1 loses it; tick0, crash0, up0 and fuse0
// call Tick, Crash (nothing is kept), Restart and Fuse (the next sync) of node 0.
func play(t *testing.T, w *settle.World, script string) {
	t.Helper()
	for _, x := range strings.Fields(script) {
		end := len(x) - 1
		node := int(x[end] - '0')
		var e api.Errno
		switch call := x[:end]; {
		case call == "tick":
			e = w.Tick(node)
		case call == "crash":
			e = w.Crash(node, 0)
		case call == "up":
			e = w.Restart(node)
		case call == "fuse":
			e = w.Fuse(node, 1)
		case call[0] == '+':
			e = w.Copy(place(t, w, x[1:]))
		case call[0] == '-':
			e = w.Lose(place(t, w, x[1:]))
		default:
			e = w.Deliver(place(t, w, x))
		}
		wantOK(t, x, e)
	}
}

// wantSent does what a word of a script says, and asks for what is sent by that.
func wantSent(t *testing.T, w *settle.World, x, want string) {
	t.Helper()
	waiting := w.Bag()
	if !strings.HasPrefix(x, "tick") {
		i := place(t, w, x)
		waiting = slices.Delete(waiting, i, i+1)
	}
	play(t, w, x)
	bag := w.Bag()
	if len(bag) < len(waiting) || !slices.Equal(bag[:len(waiting)], waiting) {
		t.Errorf("%s: %s waited, %s waits", x, words(waiting), words(bag))
		return
	}
	if got := words(bag[len(waiting):]); got != want {
		t.Errorf("%s: sent %s, want %s", x, got, want)
	}
}

// at puts the number of a site into a script in which it is #, and that of the other one, *.
func at(site int, script string) string {
	return strings.NewReplacer("#", string(rune('0'+site)), "*", string(rune('3'-site))).Replace(script)
}

const (
	bothYes  = "Ask# Ask* Yes# Yes* "
	bothDone = bothYes + "Do# Do* Ack# Ack* "
	giveUp   = "tick0 tick0 tick0 " // Patience is 3
)

// scene is a script and a word, what is sent by the word, and what is known of the deal then: the mark at the site, or the state,
// and how many records there are.
type scene struct {
	script, word, sent string
	known, records     int
}

// What a node does, of a site: each message that can come to it, with each mark.
func TestSite(t *testing.T) {
	scenes := []scene{
		{"", "Ask#", "Yes#", settle.Prepared, 1},
		{"+Ask# Ask#", "Ask#", "Yes#", settle.Prepared, 1},
		{"+Ask# " + bothYes + "Do#", "Ask#", "Yes#", settle.Done, 2},
		{"+Ask# Ask# " + giveUp + "Drop#", "Ask#", "No#", settle.Dropped, 2},
		{bothYes, "Do#", "Ack#", settle.Done, 2},
		{bothYes + "+Do# Do#", "Do#", "Ack#", settle.Done, 2},
		{"Ask# " + giveUp, "Drop#", "Ack#", settle.Dropped, 2},
		{"Ask# " + giveUp + "+Drop# Drop#", "Drop#", "Ack#", settle.Dropped, 2},
		{giveUp, "Drop#", "Ack#", 0, 0},
		{"+Ask# " + bothDone + "Ask# Yes#", "Drop#", "", settle.Done, 2},
		{giveUp + "Drop#", "Ask#", "Yes#", settle.Prepared, 1},
		{"", "tick#", "", 0, 0},
		{"Ask#", "tick#", "Yes#", settle.Prepared, 1},
		{"Ask# Yes#", "tick#", "Yes#", settle.Prepared, 1},
		{bothYes, "tick#", "Yes#", settle.Prepared, 1},
		{bothYes + "Do#", "tick#", "", settle.Done, 2},
		{"Ask# " + giveUp, "tick#", "Yes#", settle.Prepared, 1},
		{"Ask# " + giveUp + "Drop#", "tick#", "", settle.Dropped, 2},
		{"Ask# crash# up#", "tick#", "Yes#", settle.Prepared, 1},
		{bothYes + "Do# crash# up#", "tick#", "", settle.Done, 2},
		{bothYes + "crash# up#", "Do#", "Ack#", settle.Done, 2},
	}
	for _, x := range scenes {
		for site := 1; site <= 2; site++ {
			w := example(t)
			wantBegun(t, w, deal(1, 2, 7, 2), 1)
			play(t, w, at(site, x.script))
			wantSent(t, w, at(site, x.word), at(site, x.sent))
			wantAt(t, w, site, 1, x.known)
			wantLog(t, w, site, x.records, x.records)
			if t.Failed() {
				t.Fatalf("site %d, %+v", site, x)
			}
		}
	}
}

// What a node does, of the coordinator: each message that can come to it, in each state.
func TestCoordinator(t *testing.T) {
	scenes := []scene{
		{"Ask#", "Yes#", "", settle.Asking, 0},
		{"Ask# +Yes# Yes#", "Yes#", "", settle.Asking, 0},
		{"Ask# Ask* Yes*", "Yes#", "Do1 Do2", settle.Doing, 1},
		{"Ask# Ask* +Yes# Yes# Yes*", "Yes#", "Do#", settle.Doing, 1},
		{"Ask# " + giveUp, "Yes#", "Drop#", settle.Dropping, 0},
		{"+Ask# " + bothDone + "Ask#", "Yes#", "Drop#", settle.Over, 1},
		{"Ask# crash0 up0", "Yes#", "Drop#", settle.Unknown, 0},
		{bothYes + "Do#", "Ack#", "", settle.Doing, 1},
		{bothYes + "Do# +Ack# Ack#", "Ack#", "", settle.Doing, 1},
		{bothYes + "Do# Do* Ack*", "Ack#", "", settle.Over, 1},
		{bothYes + "Do# Do* +Ack# Ack# Ack*", "Ack#", "", settle.Over, 1},
		{giveUp + "Drop#", "Ack#", "", settle.Dropping, 0},
		{giveUp + "Drop# +Ack# Ack#", "Ack#", "", settle.Dropping, 0},
		{giveUp + "Drop# Drop* Ack*", "Ack#", "", settle.Over, 0},
		{giveUp + "Drop# Drop* +Ack# Ack# Ack*", "Ack#", "", settle.Over, 0},
		{giveUp + "Drop# crash0 up0", "Ack#", "", settle.Unknown, 0},
		{"", "tick0", "Ask1 Ask2", settle.Asking, 0},
		{"Ask# Yes#", "tick0", "Ask*", settle.Asking, 0},
		{"Ask# Yes# tick0", "tick0", "Ask*", settle.Asking, 0},
		{"tick0 tick0", "tick0", "Drop1 Drop2", settle.Dropping, 0},
		{"Ask# Yes# tick0 tick0", "tick0", "Drop1 Drop2", settle.Dropping, 0},
		{giveUp, "tick0", "Drop1 Drop2", settle.Dropping, 0},
		{giveUp + "Drop# Ack#", "tick0", "Drop*", settle.Dropping, 0},
		{giveUp + giveUp + "Drop# Ack#", "tick0", "Drop*", settle.Dropping, 0},
		{giveUp + "Drop# Drop* Ack# Ack*", "tick0", "", settle.Over, 0},
		{"tick0 tick0 " + bothYes, "tick0", "Do1 Do2", settle.Doing, 1},
		{bothYes + giveUp, "tick0", "Do1 Do2", settle.Doing, 1},
		{bothYes + "Do# Ack#", "tick0", "Do*", settle.Doing, 1},
		{bothDone, "tick0", "", settle.Over, 1},
		{"crash0 up0", "tick0", "", settle.Unknown, 0},
		{bothYes + "Do# Ack# crash0 up0", "tick0", "Do1 Do2", settle.Doing, 1},
		{bothDone + "crash0 up0", "tick0", "Do1 Do2", settle.Doing, 1},
	}
	for _, x := range scenes {
		for site := 1; site <= 2; site++ {
			w := example(t)
			wantBegun(t, w, deal(1, 2, 7, 2), 1)
			wantScene(t, w, site, x)
		}
	}
}

func wantScene(t *testing.T, w *settle.World, site int, x scene) {
	t.Helper()
	play(t, w, at(site, x.script))
	wantSent(t, w, at(site, x.word), at(site, x.sent))
	wantState(t, w, 1, x.known)
	wantLog(t, w, 0, x.records, x.records)
	if t.Failed() {
		t.Fatalf("site %d, %+v", site, x)
	}
}

// What a node does, of sites whose accounts lack what the deal takes.
func TestNo(t *testing.T) {
	scenes := []scene{
		{"Ask#", "No#", "Drop1 Drop2", settle.Dropping, 0},
		{"Ask# +No# No#", "No#", "", settle.Dropping, 0},
		{"Ask# Ask* No*", "No#", "", settle.Dropping, 0},
		{"Ask# Ask* No* Drop# Drop* Ack# Ack*", "No#", "", settle.Over, 0},
		{"Ask# crash0 up0", "No#", "", settle.Unknown, 0},
		{"Ask# No#", "tick0", "Drop1 Drop2", settle.Dropping, 0},
		{"Ask#", "tick0", "Ask1 Ask2", settle.Asking, 0},
	}
	for _, x := range scenes {
		for site := 1; site <= 2; site++ {
			w := newWorld(t, 3, []int64{6, 9}, []int64{9, 1})
			wantBegun(t, w, deal(1, 2, 7, 2), 1)
			wantScene(t, w, site, x)
			for node := 1; node <= 2; node++ {
				wantAt(t, w, node, 1, 0)
				wantLog(t, w, node, 0, 0)
			}
		}
	}
}

// A No that is late, as its site voted yes when it was asked once more, does not end a deal that is done.
func TestLateNo(t *testing.T) {
	w := newWorld(t, 9, []int64{0, 0, 7}, []int64{1, 2, 0})
	late := message(1, 0, settle.No, 1)
	wantBegun(t, w, deal(1, 2, 7, 2), 1)
	deliver(t, w, 2)
	wantBag(t, w, late, message(2, 0, settle.Yes, 1))
	wantBegun(t, w, deal(3, 1, 7, 1), 2)
	for range 8 {
		wantOK(t, "Deliver", w.Deliver(2))
	}
	wantState(t, w, 2, settle.Over)
	wantBalances(t, w, 1, 7, 0, 0)
	wantOK(t, "Tick", w.Tick(0))
	wantOK(t, "Deliver", w.Deliver(2))
	wantBag(t, w, late, message(2, 0, settle.Yes, 1), message(0, 2, settle.Ask, 1), message(1, 0, settle.Yes, 1))
	wantOK(t, "Deliver", w.Deliver(3))
	wantOK(t, "Deliver", w.Deliver(1))
	wantState(t, w, 1, settle.Doing)
	deliver(t, w, 1)
	wantState(t, w, 1, settle.Doing)
	wantBag(t, w, message(0, 2, settle.Ask, 1), message(0, 1, settle.Do, 1), message(0, 2, settle.Do, 1))
}
