package settle_test

import (
	"math/rand/v2"
	"slices"
	"testing"

	"oast/api"
	"oast/settle"
)

// randomConfig has few members, so that deals meet one another, and often too little in their accounts.
func randomConfig(r *rand.Rand) settle.Config {
	c := settle.Config{Members: 2 + r.IntN(3), Patience: 1 + r.IntN(6)}
	for range c.Members {
		c.Money, c.Goods = append(c.Money, r.Int64N(40)), append(c.Goods, r.Int64N(40))
	}
	return c
}

func randomDeal(r *rand.Rand, members int) settle.Deal {
	buyer := 1 + r.IntN(members)
	seller := 1 + (buyer+r.IntN(members-1))%members
	d := deal(buyer, seller, r.Int64N(12), r.Int64N(12))
	if r.IntN(30) == 0 {
		wrong := wrongDeals(members)
		d = wrong[r.IntN(len(wrong))]
	}
	return d
}

// randomStep is a call that is often one of those that change the world a lot.
func randomStep(r *rand.Rand, m *model) step {
	place := r.IntN(len(m.bag)+1) - r.IntN(2)*r.IntN(2)
	node := r.IntN(3)
	if r.IntN(40) == 0 {
		node = []int{-1, 3}[r.IntN(2)]
	}
	switch k := r.IntN(60); {
	case k < 4:
		return step{call: "begin", d: randomDeal(r, m.members)}
	case k < 26:
		return step{call: "deliver"}
	case k < 38:
		return step{call: "deliver", i: place}
	case k < 40:
		return step{call: "lose", i: place}
	case k < 43:
		return step{call: "copy", i: place}
	case k < 48:
		return step{call: "tick", i: node}
	case k < 50:
		return step{call: "crash", i: node, n: r.IntN(3) - r.IntN(2)*r.IntN(2)}
	case k < 56:
		return step{call: "restart", i: node}
	case k < 59:
		return step{call: "fuse", i: node, n: r.IntN(6) - r.IntN(2)*r.IntN(2)}
	}
	return step{call: "heal", i: r.IntN(4) - r.IntN(2)*r.IntN(2)}
}

// sums are the sums of what a configuration gives to the accounts of the sites.
func sums(c settle.Config) (money, goods int64) {
	for i := range c.Members {
		money, goods = money+c.Money[i], goods+c.Goods[i]
	}
	return money, goods
}

// settled are the deals that are done at a site that is up, so that their records are safe.
func settled(w *settle.World, was map[[2]int]bool) {
	for node := 1; node <= 2; node++ {
		for i := range w.Deals() {
			if w.Up(node) && w.At(node, i+1) == settle.Done {
				was[[2]int{node, i + 1}] = true
			}
		}
	}
}

// wantStays asks for P8.11.
func wantStays(t *testing.T, w *settle.World, was map[[2]int]bool) {
	t.Helper()
	for x := range was {
		wantAt(t, w, x[0], x[1], settle.Done)
	}
}

// healInParts heals for Patience + 8 rounds, in several calls.
func healInParts(t *testing.T, r *rand.Rand, w *settle.World, patience int) {
	t.Helper()
	for rounds := patience + 8; rounds > 0; {
		n := 1 + r.IntN(rounds)
		_, e := w.Heal(n)
		wantOK(t, "Heal", e)
		rounds -= n
	}
}

// P8.2 to P8.6, P8.8 to P8.11: random calls do to a world what they do to the model, also if it is forked in between, or the calls
// are made again; and what the chapter calls consequences holds at all times.
func TestModel(t *testing.T) {
	done, all := 0, 0
	for seed := range uint64(300) {
		r := rand.New(rand.NewPCG(seed, 8))
		c := randomConfig(r)
		money, goods := sums(c)
		w, m, was := newWorld(t, c.Patience, c.Money, c.Goods), newModel(c), map[[2]int]bool{}
		var steps []step
		for range 150 {
			s := randomStep(r, m)
			steps = append(steps, s)
			w = wantLikeModel(t, w, m, s, r.IntN(8) == 0)
			wantTogether(t, w)
			wantSums(t, w, money, goods)
			wantStays(t, w, was)
			settled(w, was)
			if t.Failed() {
				t.Fatalf("seed %d, %+v, %+v", seed, c, steps)
			}
		}
		again := newWorld(t, c.Patience, c.Money, c.Goods)
		for _, s := range steps {
			s.of(again)
		}
		if got, want := pictureOf(again), m.picture(); got != want {
			t.Errorf("seed %d, the same calls again: %s, want %s", seed, got, want)
		}
		healInParts(t, r, w, c.Patience)
		wantEnded(t, w)
		wantSums(t, w, money, goods)
		wantStays(t, w, was)
		done, all = done+doneDeals(w), all+len(w.Deals())
	}
	if done < 500 || all-done < 500 {
		t.Errorf("only %d deals of %d were done", done, all)
	}
}

// wantLikeModel makes a call of a world, or of a fork of it, that is to do the same to the model. It returns the world that was changed.
func wantLikeModel(t *testing.T, w *settle.World, m *model, s step, forked bool) *settle.World {
	t.Helper()
	before, was := w, m.picture()
	if forked {
		w = w.Fork()
	}
	if got, want := s.of(w), s.ofModel(m); got != want {
		t.Errorf("%+v: %+v, want %+v", s, got, want)
	}
	if got, want := pictureOf(w), m.picture(); got != want {
		t.Errorf("%+v: %s, want %s", s, got, want)
	}
	if got := pictureOf(before); forked && got != was {
		t.Errorf("%+v of a fork: %s, was %s", s, got, was)
	}
	return w
}

// doneDeals is how many deals are done at the money site.
func doneDeals(w *settle.World) int {
	n := 0
	for i := range w.Deals() {
		if w.At(1, i+1) == settle.Done {
			n++
		}
	}
	return n
}

// steps are all calls that could matter to a small world.
func (m *model) steps() []step {
	var l []step
	for i := range m.bag {
		l = append(l, step{call: "deliver", i: i}, step{call: "lose", i: i})
		if len(m.bag) < 3 {
			l = append(l, step{call: "copy", i: i})
		}
	}
	for node := range 3 {
		l = append(l, step{call: "tick", i: node}, step{call: "crash", i: node}, step{call: "crash", i: node, n: 1},
			step{call: "restart", i: node}, step{call: "fuse", i: node, n: 1})
	}
	return l
}

// stage is a world and its model.
type stage struct {
	w *settle.World
	m *model
}

// P8.2 to P8.6, P8.8 to P8.11: all that can happen to one deal in some steps, from its beginning and from later on.
func TestAllPaths(t *testing.T) {
	configs := []settle.Config{
		{Members: 2, Patience: 2, Money: []int64{7, 0}, Goods: []int64{0, 2}},
		{Members: 2, Patience: 1, Money: []int64{7, 0}, Goods: []int64{0, 1}}, // the goods do not suffice
	}
	for _, c := range configs {
		for _, delivered := range []int{0, 2, 4} {
			w, m := newWorld(t, c.Patience, c.Money, c.Goods), newModel(c)
			steps := append([]step{{call: "begin", d: deal(1, 2, 7, 2)}}, slices.Repeat([]step{{call: "deliver"}}, delivered)...)
			for _, s := range steps {
				s.of(w)
				s.ofModel(m)
			}
			follow(t, c, stage{w, m}, 4)
		}
	}
}

// follow goes all ways of so many steps.
func follow(t *testing.T, c settle.Config, start stage, steps int) {
	t.Helper()
	seen := map[string]bool{}
	stages := []stage{start}
	for range steps {
		var next []stage
		for _, from := range stages {
			for _, s := range from.m.steps() {
				to := stage{from.w.Fork(), from.m.fork()}
				if got, want := s.of(to.w), s.ofModel(to.m); got != want {
					t.Fatalf("%s, %+v: %+v, want %+v", from.m.key(), s, got, want)
				}
				key := to.m.key()
				if seen[key] {
					continue
				}
				seen[key] = true
				wantStep(t, c, from, to)
				if t.Failed() {
					t.Fatalf("%s, %+v", from.m.key(), s)
				}
				next = append(next, to)
			}
		}
		stages = next
	}
	if len(seen) < 1000 {
		t.Errorf("only %d worlds", len(seen))
	}
}

// wantStep asks for what is promised of a world that a step led to, and of what Heal makes of it.
func wantStep(t *testing.T, c settle.Config, from, to stage) {
	t.Helper()
	if got, want := pictureOf(to.w), to.m.picture(); got != want {
		t.Errorf("%s, want %s", got, want)
	}
	healed := to.w.Fork()
	_, e := healed.Heal(c.Patience + 8)
	wantOK(t, "Heal", e)
	wantEnded(t, healed)
	money, goods := sums(c)
	was := map[[2]int]bool{}
	settled(from.w, was)
	for _, w := range []*settle.World{to.w, healed} {
		wantTogether(t, w)
		wantSums(t, w, money, goods)
		wantStays(t, w, was)
	}
}

// P8.10: deals that compete for what the accounts have come to an end too, in one call of Heal; nothing is lost with the messages.
func TestCrowdEnds(t *testing.T) {
	for seed := range uint64(40) {
		r := rand.New(rand.NewPCG(seed, 88))
		c := randomConfig(r)
		money, goods := sums(c)
		w := newWorld(t, c.Patience, c.Money, c.Goods)
		begun := 0
		for range 60 {
			n, e := w.Begin(randomDeal(r, c.Members))
			switch {
			case e == api.OK:
				begun++
				if n != begun {
					t.Errorf("deal %d has the number %d", begun, n)
				}
			case e != api.ErrArg:
				t.Errorf("Begin: error %d", e)
			}
			if n := len(w.Bag()); n > 0 && r.IntN(2) == 0 {
				wantOK(t, "Deliver", w.Deliver(r.IntN(n)))
			}
		}
		wantHealed(t, w, c.Patience+8, 0)
		wantEnded(t, w)
		wantSums(t, w, money, goods)
		if t.Failed() {
			t.Fatalf("seed %d", seed)
		}
	}
}
