package floor_test

import (
	"fmt"
	"strings"
	"testing"

	"oast/floor"
)

// busy is a floor on which there is something of all.
func busy(t *testing.T) *floor.Floor {
	t.Helper()
	return after(t, `
		enter 1 10 1 1: ok
		enter 11 10 2 2: ok
		grade 1 1: ok
		pay 3 1000: ok
		pay 4 1000: ok
		pledge 10 1 1 5: ok
		sell 1 1 50 4 1: ok 1
		buy 1 3 50 1 1: ok 2 50 1
		buy 1 3 40 2 1: ok 3
		bid 1 4 30 2: ok
		ask 1 1 30 2: ok
		owe 3 4 5: ok
	`)
}

// P10.2: a fork is in the same state, and neither of the two changes the other, whatever line is done.
func TestFork(t *testing.T) {
	lines := []string{
		"enter 30 2 1 1", "leave 8 1 1", "leave 20 1 2", "move 8 1 1 4", "pledge 8 1 1 1", "release 10 1 5", "seize 10 1 5", "grade 2 1", "grade 3 2",
		"pay 1 7", "draw 4 7", "buy 1 4 50 2 1", "buy 1 4 0 2 2", "buy 1 4 20 1 1", "buy 2 4 20 1 1", "sell 1 1 40 1 1", "sell 1 1 60 1 1", "cancel 1 1 1", "cancel 1 3 3",
		"bid 1 3 30 1", "ask 1 1 20 1", "call 1 1", "owe 3 4 1", "owe 4 5 1", "net", "fair 0 0", "call 1 2",
	}
	for _, line := range lines {
		f := busy(t)
		was := pictureOf(f)
		g := f.Fork()
		wantPicture(t, "a fork", g, was)
		answer := g.Do(line)
		if !strings.HasPrefix(answer, "ok") {
			t.Fatalf("%s: %s", line, answer)
		}
		went := pictureOf(g)
		if went == was {
			t.Errorf("%s: no effect", line)
		}
		wantPicture(t, line+" of the fork: its floor", f, was)
		wantAnswer(t, f, line, answer)
		wantPicture(t, line+": the floor", f, went)
		for _, more := range lines {
			f.Do(more)
		}
		wantPicture(t, "changes of the floor after "+line+": the fork", g, went)
	}
}

// P10.2: what is done of a fork, and of forks of forks, leads to what it would have led to without them.
func TestForksGoOn(t *testing.T) {
	lines := strings.Split(strings.TrimSuffix(busy(t).Tape(), "\n"), "\n")
	lines = append(lines, "call 1 1", "buy 1 4 50 2 1", "sell 1 1 40 1 1", "net", "cancel 1 3 3")
	f, whole := floor.New(), floor.New()
	var past []*floor.Floor
	var pictures []string
	for i, line := range lines {
		past, pictures = append(past, f), append(pictures, pictureOf(f))
		f = f.Fork()
		wantAnswer(t, f, line, whole.Do(line))
		wantPicture(t, line, f, pictureOf(whole))
		past[i].Fork().Do(line)
	}
	for i, x := range past {
		wantPicture(t, fmt.Sprint("the floor before line ", i+1), x, pictures[i])
	}
	for i, x := range past[:5] {
		for _, line := range lines[i:] {
			x.Do(line)
		}
		wantPicture(t, fmt.Sprint("the floor from line ", i+1), x, pictureOf(whole))
	}
}

// P10.2: forks do not write over the lists of one another, however long these are.
func TestForksWriteForThemselves(t *testing.T) {
	for length := range 10 {
		f := shop(t)
		for range length {
			play(t, f, "bid 3 3 7 1: ok")
			f.Do("sell 4 1 5 1 1")
			f.Do("buy 4 3 5 1 1")
		}
		floors := []*floor.Floor{f, f.Fork(), f.Fork()}
		floors = append(floors, floors[1].Fork())
		was := f.Tape()
		for i, x := range floors {
			wantAnswer(t, x, fmt.Sprintf("bid 3 4 %d 1", 20+i), "ok")
			wantAnswer(t, x, fmt.Sprintf("sell 4 1 %d 1 1", 20+i), fmt.Sprint("ok ", 2*length+1))
			wantAnswer(t, x, fmt.Sprintf("buy 4 4 %d 1 1", 20+i), fmt.Sprintf("ok %d %d 1", 2*length+2, 20+i))
			wantAnswer(t, x, fmt.Sprint("owe 1 2 ", 1+i), "ok")
		}
		for i, x := range floors {
			want := fmt.Sprintf("%sbid 3 4 %d 1\nsell 4 1 %d 1 1\nbuy 4 4 %d 1 1\nowe 1 2 %d\n", was, 20+i, 20+i, 20+i, 1+i)
			if got := x.Tape(); got != want {
				t.Errorf("floor %d: the tape is %q, want %q", i, got, want)
			}
			trades := x.Trades(4)
			if len(trades) != length+1 || trades[length] != [2]int64{int64(20 + i), 1} {
				t.Errorf("floor %d: the trades are %v", i, trades)
			}
			play(t, x, "ask 3 1 8 1: ok")
			wantAnswer(t, x, "call 3 1", "ok 8 1 1")
			money, bound := x.Money(4)
			if money != int64(1000-20-i-8) || bound != 0 {
				t.Errorf("floor %d: member 4 has %d, %d bound", i, money, bound)
			}
		}
	}
}

// R4: what is written to a result changes neither the floor nor another result.
func TestTradesAreNew(t *testing.T) {
	f := busy(t)
	g := f.Fork()
	was := pictureOf(f)
	for range 2 {
		l, other := f.Trades(1), f.Trades(1)
		for i := range l[:cap(l)] {
			l[:cap(l)][i] = [2]int64{-9, -9}
		}
		if other[0] != [2]int64{50, 1} {
			t.Errorf("Trades: %v", other)
		}
		_ = append(l, [2]int64{-9, -9})
	}
	wantPicture(t, "written to the trades", f, was)
	wantPicture(t, "written to the trades: the fork", g, was)
	wantAnswer(t, f, "call 1 1", "ok 30 2 1")
	wantTrades(t, f, 1, [2]int64{50, 1}, [2]int64{30, 2})
}

// R7: the same lines have the same answers, on any floor.
func TestDeterminism(t *testing.T) {
	was := pictureOf(busy(t))
	for range 20 {
		wantPicture(t, "once more", busy(t), was)
	}
}
