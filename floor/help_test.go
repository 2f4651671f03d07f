package floor_test

import (
	"fmt"
	"strings"
	"testing"

	"oast/api"
	"oast/floor"
)

// exchange is what a floor and its model have in common.
type exchange interface {
	Do(line string) string
	Tape() string
	Money(member int) (all, bound int64)
	Owner(pocket int) int
	Total() int64
	Pockets() int
	Trades(grade int) [][2]int64
}

// The members, lots, pockets and grades that the tests use are from 1 to these, but for a few.
const (
	members = 4
	lots    = 4
	pockets = 48
	grades  = 2
)

// pictureOf is all that a floor tells of itself.
func pictureOf(x exchange) string {
	l := []string{x.Tape(), fmt.Sprint(x.Total(), x.Pockets()), x.Do("audit")}
	for member := range members + 2 {
		all, bound := x.Money(member)
		l = append(l, fmt.Sprint(all, bound), x.Do(fmt.Sprint("money ", member)))
		for grade := range grades + 2 {
			l = append(l, x.Do(fmt.Sprintf("hops %d %d", member, grade)))
		}
		for other := range members + 2 {
			l = append(l, x.Do(fmt.Sprintf("debt %d %d", member, other)))
		}
	}
	for pocket := range pockets + 2 {
		l = append(l, fmt.Sprint(x.Owner(pocket)), x.Do(fmt.Sprint("pocket ", pocket)))
	}
	for grade := range grades + 2 {
		l = append(l, fmt.Sprint(x.Trades(grade)), x.Do(fmt.Sprint("best ", grade)), x.Do(fmt.Sprint("last ", grade)))
	}
	return strings.Join(l, "; ")
}

// play does the lines of a script, in which the answer that is wanted stands behind each line, after a colon.
func play(t *testing.T, x exchange, script string) {
	t.Helper()
	for _, part := range strings.Split(script, "\n") {
		part = strings.TrimSpace(part)
		if part == "" {
			continue
		}
		line, want, ok := strings.Cut(part, ": ")
		if !ok {
			t.Fatalf("no answer behind %q", part)
		}
		wantAnswer(t, x, line, want)
	}
}

func wantAnswer(t *testing.T, x exchange, line, want string) {
	t.Helper()
	if got := x.Do(line); got != want {
		t.Errorf("%.60q (%d bytes): %q, want %q", line, len(line), got, want)
	}
}

// after is a floor that has done a script.
func after(t *testing.T, script string) *floor.Floor {
	t.Helper()
	f := floor.New()
	play(t, f, script)
	if t.Failed() {
		t.FailNow()
	}
	return f
}

// wantRefused does lines that are all refused with a code, and have no effect.
func wantRefused(t *testing.T, f *floor.Floor, want api.Errno, lines ...string) {
	t.Helper()
	was := pictureOf(f)
	for _, line := range lines {
		wantAnswer(t, f, line, fmt.Sprint("error ", int(want)))
		wantPicture(t, line, f, was)
	}
}

// wantPicture asks for a floor of which all is as it was.
func wantPicture(t *testing.T, what string, x exchange, was string) {
	t.Helper()
	if got := pictureOf(x); got != was {
		l, want := strings.Split(got, "; "), strings.Split(was, "; ")
		for i := range l {
			if l[i] != want[i] {
				t.Errorf("%.60q: in place %d of the picture %s, want %s", what, i, l[i], want[i])
			}
		}
	}
}

func wantTrades(t *testing.T, f *floor.Floor, grade int, want ...[2]int64) {
	t.Helper()
	if got := f.Trades(grade); fmt.Sprint(got) != fmt.Sprint(want) {
		t.Errorf("Trades(%d): %v, want %v", grade, got, want)
	}
}

// wantOwners asks for the owners of the pockets from 1 on: a digit for each.
func wantOwners(t *testing.T, f *floor.Floor, want string) {
	t.Helper()
	got := ""
	for i := range len(want) {
		got += fmt.Sprint(f.Owner(i + 1))
	}
	if got != want {
		t.Errorf("owners: %s, want %s", got, want)
	}
}

// wantMoney asks for the money of the members, member 1 first.
func wantMoney(t *testing.T, f *floor.Floor, want ...int64) {
	t.Helper()
	for i, x := range want {
		if got, _ := f.Money(i + 1); got != x {
			t.Errorf("money of %d: %d, want %d", i+1, got, x)
		}
	}
}

// wantBound asks for how much money of the members is bound, member 1 first.
func wantBound(t *testing.T, f *floor.Floor, want ...int64) {
	t.Helper()
	for i, x := range want {
		if _, got := f.Money(i + 1); got != x {
			t.Errorf("bound money of %d: %d, want %d", i+1, got, x)
		}
	}
}

// repeat puts the numbers from a to b into a line, one after the other.
func repeat(line string, a, b int) []string {
	var l []string
	for i := a; i <= b; i++ {
		l = append(l, fmt.Sprintf(line, i))
	}
	return l
}
