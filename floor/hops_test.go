package floor_test

import (
	"fmt"
	"strings"
	"testing"

	"oast/api"
	"oast/floor"
	"oast/stock"
)

// The commands of the register, with the codes of chapter 1 in their order.
func TestRegister(t *testing.T) {
	f := after(t, `
		enter 1 10 7 1: ok
		enter 11 5 8 2: ok
		pledge 9 2 1 3: ok
		pledge 15 1 2 2: ok
		enter 30 1 7 3: ok
		leave 30 1 3: ok
	`)
	wantRefused(t, f, api.ErrArg,
		"enter 0 1 1 1", "enter -1 1 1 1", "enter 20 0 1 1", "enter 20 -1 1 1", "enter 1000001 1 1 1", "enter 1000000 2 1 1", "enter 20 1000000000000 1 1",
		"enter 20 1 0 1", "enter 20 1 1000001 1", "enter 20 1 1 0", "enter 20 1 1 1001", "enter 1 1 7 0",
		"leave 0 1 1", "leave 1 0 1", "leave 1 1 0", "leave 1 1 1001", "leave 20 1 0", "leave 1000000 2 1",
		"move 0 1 1 2", "move 1 0 1 2", "move 1 1 0 2", "move 1 1 1 1001", "move 1 1 1 1", "move 20 1 1 1",
		"pledge 0 1 1 2", "pledge 1 -1 1 2", "pledge 1 1 1001 2", "pledge 1 1 1 0", "pledge 20 1 1 0",
		"release 0 1 3", "release 9 0 3", "release 9 1 0", "seize 0 1 3", "seize 9 0 3", "seize 9 1 1001",
	)
	wantRefused(t, f, api.ErrState, "enter 1 1 7 1", "enter 16 15 7 1", "enter 10 1 7 1", "enter 30 1 7 3")
	wantRefused(t, f, api.ErrNone,
		"leave 20 1 1", "leave 30 1 3", "move 20 1 1 2", "pledge 20 1 1 2", "release 20 1 3", "seize 30 1 3", "release 16 1 2",
	)
	wantRefused(t, f, api.ErrOwner, "leave 11 1 1", "leave 1 1 2", "move 8 4 2 1", "pledge 1 1 2 1", "leave 15 1 1", "move 11 6 1 2")
	wantRefused(t, f, api.ErrPledge,
		"leave 8 4 1", "move 9 1 1 2", "pledge 10 1 1 3", "release 1 1 3", "seize 1 1 3", "release 9 2 1", "seize 15 1 3", "release 8 2 3", "leave 9 3 1",
	)
	play(t, f, `
		hops 1 1: hops 0 0
		grade 7 1: ok
		hops 1 1: hops 8 0
		grade 8 2: ok
		hops 2 2: hops 4 0
		move 1 2 1 2: ok
		hops 1 1: hops 6 0
		hops 2 1: hops 2 0
		release 9 1 3: ok
		hops 1 1: hops 7 0
		seize 10 1 3: ok
		hops 3 1: hops 1 0
		seize 15 1 2: ok
		hops 2 2: hops 5 0
		leave 11 4 2: ok
		hops 2 2: hops 1 0
		pocket 10: pocket 1 7 3 0
		pocket 11: pocket 2 0 0 0
		pocket 16: pocket 0 0 0 0
		pocket 9: pocket 1 7 1 0
		pledge 9 1 1 2: ok
		pocket 9: pocket 1 7 1 2
		pocket 1000000: pocket 0 0 0 0
		pocket 0: error 1
		pocket 1000001: error 1
		pocket -1: error 1
		audit: audit 0 11
	`)
	wantOwners(t, f, "2211111113"+"00002"+"0")
	if f.Pockets() != 11 {
		t.Errorf("Pockets: %d", f.Pockets())
	}
}

// The register comes before what is bound: the code that is wrong first is answered.
func TestBoundPockets(t *testing.T) {
	f := after(t, `
		enter 1 10 7 1: ok
		enter 11 2 8 1: ok
		enter 13 2 9 1: ok
		enter 15 2 6 1: ok
		grade 7 3: ok
		grade 8 3: ok
		grade 9 4: ok
		pledge 1 2 1 2: ok
		sell 3 1 50 5 1: ok 1
		ask 3 1 60 4: ok
		ask 4 1 60 2: ok
		hops 1 3: hops 10 9
		hops 1 4: hops 2 2
		hops 1 1: hops 0 0
	`)
	wantRefused(t, f, api.ErrFunds,
		"leave 3 2 1", "leave 10 2 1", "move 3 2 1 2", "move 11 2 1 2", "pledge 3 2 1 2", "pledge 3 2 1 1", "leave 3 8 1",
		"move 13 1 1 2", "pledge 13 1 1 1", "leave 13 1 1", "move 12 2 1 2", "leave 14 3 1", "pledge 3 10 1 5",
	)
	wantRefused(t, f, api.ErrPledge, "leave 2 3 1", "move 2 9 1 2", "pledge 2 9 1 2")
	wantRefused(t, f, api.ErrNone, "leave 3 20 1", "move 13 5 1 2", "pledge 16 2 1 2")
	wantRefused(t, f, api.ErrOwner, "leave 3 8 2", "move 3 8 2 1", "pledge 3 8 2 1")
	wantRefused(t, f, api.ErrArg, "leave 3 8 0", "move 3 8 1 1", "pledge 3 8 1 0")
	for _, line := range []string{"leave 3 1 1", "move 12 1 1 2", "pledge 10 1 1 2", "pledge 5 1 1 1"} {
		g := f.Fork()
		wantAnswer(t, g, line, "ok")
		wantAnswer(t, g, "hops 1 3", "hops 9 9")
		wantRefused(t, g, api.ErrFunds, "leave 8 1 1", "move 8 1 1 2", "pledge 8 1 1 2", "sell 3 1 50 1 1", "ask 3 1 50 1")
	}
	// Pockets of lots without a grade are free, so are those of others.
	play(t, f, `
		move 15 1 1 2: ok
		leave 16 1 1: ok
		release 1 1 2: ok
		leave 9 2 1: ok
		cancel 3 1 1: ok
		hops 1 3: hops 9 4
		leave 1 1 1: ok
		move 3 4 1 2: ok
		move 7 1 1 2: error 9
		leave 3 4 2: ok
		hops 1 3: hops 4 4
		pocket 2: pocket 1 7 1 2
		seize 2 1 2: ok
		hops 1 3: hops 4 4
		hops 2 3: hops 1 0
	`)
}

// A lot gets a grade once.
func TestGrade(t *testing.T) {
	f := after(t, `
		enter 1 4 7 1: ok
		grade 7 3: ok
		grade 9 20: ok
		grade 1000000 1: ok
	`)
	wantRefused(t, f, api.ErrArg,
		"grade 0 1", "grade -1 1", "grade 1000001 1", "grade 1 0", "grade 1 -1", "grade 1 21", "grade 7 0", "grade 7 21", "grade 1000000000000 3", "grade 7 1000000000000",
	)
	wantRefused(t, f, api.ErrState, "grade 7 1", "grade 7 4", "grade 9 3", "grade 1000000 20")
	play(t, f, `
		grade 7 3: ok
		hops 1 3: hops 4 0
		hops 1 20: hops 0 0
		enter 5 2 9 1: ok
		hops 1 20: hops 2 0
		enter 7 1 8 1: ok
		grade 8 3: ok
		hops 1 3: hops 5 0
		grade 8 3: ok
	`)
	want := "enter 1 4 7 1\ngrade 7 3\ngrade 9 20\ngrade 1000000 1\ngrade 7 3\nenter 5 2 9 1\nenter 7 1 8 1\ngrade 8 3\ngrade 8 3\n"
	if got := f.Tape(); got != want {
		t.Errorf("tape: %q, want %q", got, want)
	}
}

// A trade moves the least numbers first, of all lots of the grade, but no pledged ones, and none of other grades or without one.
func TestWhichPockets(t *testing.T) {
	f := after(t, `
		enter 9 2 1 1: ok
		enter 1 2 2 1: ok
		enter 3 2 3 1: ok
		enter 5 1 4 1: ok
		enter 6 1 1 2: ok
		enter 7 2 1 1: ok
		grade 1 5: ok
		grade 2 5: ok
		grade 3 6: ok
		pledge 7 1 1 4: ok
		pledge 1 1 1 1: ok
		pay 3 100: ok
		hops 1 5: hops 4 0
		sell 5 1 2 4 1: ok 1
		sell 5 1 2 1 1: error 9
		buy 5 3 2 2 1: ok 2 2 2
	`)
	wantOwners(t, f, "1311121311")
	play(t, f, `
		buy 5 3 2 1 1: ok 3 2 1
	`)
	wantOwners(t, f, "1311121331")
	play(t, f, `
		release 1 1 1: ok
		sell 5 1 2 1 1: ok 4
		buy 5 3 2 1 1: ok 5 2 1
	`)
	wantOwners(t, f, "3311121331")
	play(t, f, `
		buy 5 3 2 1 1: ok 6 2 1
		hops 1 5: hops 0 0
		hops 3 5: hops 5 0
		money 1: money 10 0
		pocket 7: pocket 1 1 1 4
		pocket 10: pocket 1 1 3 0
	`)
	wantOwners(t, f, "3311121333")
}

// The questions about pockets.
func TestHopsQuestion(t *testing.T) {
	f := after(t, `
		enter 1 4 1 1: ok
		grade 1 20: ok
		enter 5 2 1 1000: ok
		hops 1 20: hops 4 0
		hops 1000 20: hops 2 0
		hops 2 20: hops 0 0
		hops 1 1: hops 0 0
	`)
	wantRefused(t, f, api.ErrArg, "hops 0 1", "hops -1 1", "hops 1001 1", "hops 1 0", "hops 1 21", "hops 1 -1", "hops 1000000000000 20")
}

// P10.2: Owner and Pockets.
func TestOwner(t *testing.T) {
	f := after(t, `
		enter 1 3 1 1: ok
		enter 1000000 1 1 1000: ok
		leave 2 1 1: ok
		pledge 3 1 1 5: ok
	`)
	owners := map[int]int{-1 << 63: 0, -1: 0, 0: 0, 1: 1, 2: 0, 3: 1, 4: 0, 1000000: 1000, 1000001: 0, 1<<63 - 1: 0}
	for pocket, want := range owners {
		if got := f.Owner(pocket); got != want {
			t.Errorf("Owner(%d): %d, want %d", pocket, got, want)
		}
	}
	if f.Pockets() != 3 || floor.New().Pockets() != 0 {
		t.Errorf("Pockets: %d", f.Pockets())
	}
}

// Samples are drawn as chapter 1 says, whatever happened on the floor.
func TestSample(t *testing.T) {
	f := floor.New()
	wantRefused(t, f, api.ErrArg,
		"sample -1 3 1", "sample -1 3 4097", "sample 0 5000 4097", "sample 0 1000000 1000000", "sample 0 3 4", "sample 0 3 -1", "sample 0 -1 0", "sample 0 -1 -1",
		"sample 0 1000001 1", "sample 0 1000000000000 0", "sample -1000000000000 1 0",
	)
	play(t, f, `
		sample 0 0 0: sample
		sample 0 1 1: sample 0
		sample 0 3 1: sample 1
		sample 7 1000000 0: sample
	`)
	for _, x := range [][3]int{{42, 100, 7}, {0, 3, 3}, {1000000000000, 1000000, 4096}, {7, 4096, 4096}} {
		drawn, e := stock.Sample(uint64(x[0]), x[1], x[2])
		if e != api.OK {
			t.Fatal(e)
		}
		want := "sample" + " " + strings.Trim(fmt.Sprint(drawn), "[]")
		line := fmt.Sprintf("sample %d %d %d", x[0], x[1], x[2])
		wantAnswer(t, f, line, want)
		f.Do("enter 1 5 1 1")
		wantAnswer(t, f, line, want)
	}
}
