package floor_test

import (
	"fmt"
	"math/rand/v2"
	"slices"
	"strings"
	"testing"

	"oast/floor"
)

// script is random lines in which members meet one another often.
type script struct {
	*rand.Rand
	pledges []string // the spans and holders that a pledge was tried with
}

// pick is a number from least to most, or now and then one near them or far from them.
func (r *script) pick(least, most int) int {
	if r.IntN(60) == 0 {
		l := []int{least - 1, most + 1, 0, -1, 21, 1000, 1001, 1000000, 1000001, 1000000000, 1000000001, 1000000000000, -1000000000000}
		return l[r.IntN(len(l))]
	}
	return least + r.IntN(most-least+1)
}

func (r *script) member() int { return r.pick(1, members) }
func (r *script) grade() int  { return r.pick(1, grades) }
func (r *script) price() int  { return r.pick(1, 8) }
func (r *script) qty() int    { return r.pick(1, 5) }

// span is a first pocket and how many there are.
func (r *script) span() string {
	return fmt.Sprint(r.pick(1, pockets), " ", 1+r.IntN(1+r.IntN(1+r.IntN(6))))
}

// line is a random line; the first ones of a script bring pockets and money.
func (r *script) line(at int) string {
	switch {
	case at < lots:
		return fmt.Sprintf("grade %d %d", at+1, 1+r.IntN(grades))
	case at < 12:
		return fmt.Sprintf("enter %d 5 %d %d", 5*(at-lots)+1, 1+r.IntN(lots), 1+r.IntN(members))
	case at < 12+members:
		return fmt.Sprintf("pay %d %d", at-11, 50+r.IntN(100))
	}
	switch k := r.IntN(100); {
	case k < 28:
		price, force := r.price(), 1
		switch r.IntN(8) {
		case 0:
			price, force = 0, 2+r.IntN(2)
		case 1, 2:
			force = r.pick(1, 4)
		case 3:
			force = 4
		}
		return fmt.Sprintf("%s %d %d %d %d %d", []string{"buy", "sell"}[r.IntN(2)], r.grade(), r.member(), price, r.qty(), force)
	case k < 33:
		return fmt.Sprintf("cancel %d %d %d", r.grade(), r.pick(1, 30), r.member())
	case k < 46:
		return fmt.Sprintf("%s %d %d %d %d", []string{"bid", "ask"}[r.IntN(2)], r.grade(), r.member(), r.price(), r.qty())
	case k < 51:
		return fmt.Sprintf("call %d %d", r.grade(), r.pick(1, 2))
	case k < 57:
		return fmt.Sprintf("owe %d %d %d", r.member(), r.member(), r.pick(1, 30))
	case k < 60:
		return "net"
	case k < 85:
		return r.registerLine()
	case k < 91:
		return fmt.Sprintf("%s %d %d", []string{"pay", "draw"}[r.IntN(2)], r.member(), r.pick(1, 40))
	case k < 94:
		return r.fair()
	case k < 97:
		return r.question()
	}
	return r.mess()
}

// registerLine is a line about pockets.
func (r *script) registerLine() string {
	switch r.IntN(9) {
	case 0:
		return fmt.Sprintf("enter %s %d %d", r.span(), r.pick(1, lots), r.member())
	case 1, 2:
		return fmt.Sprintf("leave %s %d", r.span(), r.member())
	case 3:
		return fmt.Sprintf("grade %d %d", r.pick(1, lots+1), r.grade())
	case 4, 5:
		span, holder := r.span(), r.member()
		r.pledges = append(r.pledges, fmt.Sprint(span, " ", holder))
		return fmt.Sprintf("pledge %s %d %d", span, r.member(), holder)
	case 6:
		word := []string{"release", "seize"}[r.IntN(2)]
		if len(r.pledges) > 0 && r.IntN(4) > 0 {
			return fmt.Sprint(word, " ", r.pledges[r.IntN(len(r.pledges))])
		}
		return fmt.Sprintf("%s %s %d", word, r.span(), r.member())
	}
	return fmt.Sprintf("move %s %d %d", r.span(), r.member(), r.member())
}

func (r *script) fair() string {
	growers, brewers := r.pick(0, 4), r.pick(0, 4)
	l := []int{growers, brewers}
	part := func(n int) {
		likes := rand.New(r).Perm(max(0, min(n, 10)))
		likes = likes[:r.IntN(len(likes)+1)]
		l = append(append(l, len(likes)), likes...)
	}
	for range min(growers, 70) {
		part(brewers)
	}
	for range min(brewers, 70) {
		l = append(l, r.pick(0, 3))
		part(growers)
	}
	if r.IntN(4) == 0 {
		l[r.IntN(len(l))] = r.pick(-1, 5)
	}
	return strings.TrimSuffix("fair "+strings.Trim(fmt.Sprint(l), "[]"), " ")
}

func (r *script) question() string {
	l := []string{
		fmt.Sprint("money ", r.member()),
		fmt.Sprintf("hops %d %d", r.member(), r.grade()),
		fmt.Sprint("pocket ", r.pick(1, pockets)),
		fmt.Sprint("best ", r.grade()),
		fmt.Sprint("last ", r.grade()),
		fmt.Sprintf("debt %d %d", r.member(), r.member()),
		fmt.Sprintf("sample %d %d %d", r.pick(0, 99), r.pick(1, 9), r.pick(0, 5)),
		"audit",
	}
	return l[r.IntN(len(l))]
}

// mess is a line that is none, most of the time.
func (r *script) mess() string {
	l := []string{"", "#", "# net", "Net", " net", "net ", "pay 1", "pay 1 01", "pay 1 -0", "pay 1  5", "pay 1 1000000000001", "fair", "fair 1", "\xff", "net 0"}
	line := l[r.IntN(len(l))]
	if r.IntN(10) == 0 {
		line += strings.Repeat("x", 513)
	}
	return line
}

// scriptOf is the lines of a seed.
func scriptOf(seed uint64, lines int) []string {
	r := &script{Rand: rand.New(rand.NewPCG(seed, 10))}
	var l []string
	for i := range lines {
		l = append(l, r.line(i))
	}
	return l
}

const (
	seeds  = 150
	length = 300
)

// P10.1, P10.2, P10.5, P10.8: random lines do to a floor what they do to the model.
func TestModel(t *testing.T) {
	done, refused := map[string]int{}, map[string]int{}
	for seed := range uint64(seeds) {
		f, m := floor.New(), newModel()
		for i, line := range scriptOf(seed, length) {
			answer := m.Do(line)
			wantAnswer(t, f, line, answer)
			if i%10 == 0 || i == length-1 {
				wantPicture(t, line, f, pictureOf(m))
			}
			if t.Failed() {
				t.Fatalf("seed %d, line %d", seed, i+1)
			}
			word, _, _ := strings.Cut(line, " ")
			if strings.HasPrefix(answer, "ok") {
				done[word]++
			} else {
				refused[word+answer]++
			}
		}
	}
	for _, word := range strings.Fields("enter leave move pledge release seize grade pay draw buy sell cancel bid ask call owe net fair") {
		if done[word] < 20 {
			t.Errorf("%s was done %d times", word, done[word])
		}
	}
	for _, x := range strings.Fields("leaveerror_9 moveerror_9 pledgeerror_9 drawerror_9 buyerror_9 sellerror_9 biderror_9 askerror_9 neterror_9 buyerror_20 callerror_30 cancelerror_8") {
		if n := refused[strings.Replace(x, "_", " ", 1)]; n < 20 {
			t.Errorf("%s: %d times", x, n)
		}
	}
}

// P10.4: the sums stay, and what is bound is there.
func TestSums(t *testing.T) {
	for seed := range uint64(seeds) {
		f := floor.New()
		var money int64
		pockets := 0
		for _, line := range scriptOf(seed, length) {
			answer := f.Do(line)
			var a, b int
			switch {
			case answer != "ok":
			case scan(line, "pay %d %d", &a, &b):
				money += int64(b)
			case scan(line, "draw %d %d", &a, &b):
				money -= int64(b)
			case scan(line, "enter %d %d", &a, &b):
				pockets += b
			case scan(line, "leave %d %d", &a, &b):
				pockets -= b
			}
			if f.Total() != money || f.Pockets() != pockets || f.Do("audit") != fmt.Sprintf("audit %d %d", money, pockets) {
				t.Fatalf("seed %d, %s: %d, %d, want %d, %d", seed, line, f.Total(), f.Pockets(), money, pockets)
			}
			wantCovered(t, f)
			if t.Failed() {
				t.Fatalf("seed %d, %s", seed, line)
			}
		}
	}
}

func scan(line, form string, numbers ...any) bool {
	n, _ := fmt.Sscanf(line, form, numbers...)
	return n == len(numbers)
}

// wantCovered asks for money and pockets that are at least what is bound of them.
func wantCovered(t *testing.T, f *floor.Floor) {
	t.Helper()
	for member := 1; member <= members; member++ {
		if all, bound := f.Money(member); bound < 0 || all < bound {
			t.Errorf("member %d has %d, and %d bound", member, all, bound)
		}
		for grade := 1; grade <= grades; grade++ {
			var free, bound int
			if !scan(f.Do(fmt.Sprintf("hops %d %d", member, grade)), "hops %d %d", &free, &bound) || bound < 0 || free < bound {
				t.Errorf("member %d has %d of grade %d, and %d bound", member, free, grade, bound)
			}
		}
	}
}

// eachDone does random lines, and shows the floor before and behind each one of some words that was done.
func eachDone(words string, look func(was, is *floor.Floor, line string, answer []string)) {
	for seed := range uint64(seeds) {
		f := floor.New()
		for _, line := range scriptOf(seed, length) {
			word, _, _ := strings.Cut(line, " ")
			if !slices.Contains(strings.Fields(words), word) {
				f.Do(line)
				continue
			}
			was := f.Fork()
			if answer := strings.Fields(f.Do(line)); answer[0] == "ok" {
				look(was, f, line, answer)
			}
		}
	}
}

// P10.5: what a buy or a sell moves is what its trades say.
func TestTradesMoveWhatTheySay(t *testing.T) {
	trades := 0
	eachDone("buy sell", func(was, is *floor.Floor, line string, answer []string) {
		var grade, member int
		_, numbers, _ := strings.Cut(line, " ")
		scan(numbers, "%d %d", &grade, &member)
		money, qty := 0, 0
		for i := 2; i < len(answer); i += 2 {
			var p, q int
			scan(answer[i]+" "+answer[i+1], "%d %d", &p, &q)
			money, qty = money+p*q, qty+q
			trades++
		}
		if strings.HasPrefix(line, "sell") {
			money, qty = -money, -qty
		}
		before, _ := was.Money(member)
		after, _ := is.Money(member)
		had, has := freeHops(was, member, grade), freeHops(is, member, grade)
		if int(before-after) != money || has-had != qty {
			t.Errorf("%s: %v: money %d, then %d; %d pockets, then %d", line, answer, before, after, had, has)
		}
	})
	if trades < 500 {
		t.Errorf("only %d trades", trades)
	}
}

// freeHops is how many pockets of a grade a member has that are not pledged.
func freeHops(f *floor.Floor, member, grade int) int {
	var free, bound int
	scan(f.Do(fmt.Sprintf("hops %d %d", member, grade)), "hops %d %d", &free, &bound)
	return free
}

// P10.6: without the lines that were refused, the questions, and the comments, the other lines have the same answers, and the tape is the same.
func TestRefusedLinesHaveNoEffect(t *testing.T) {
	for seed := range uint64(seeds) {
		f, g := floor.New(), floor.New()
		for _, line := range scriptOf(seed, length) {
			if answer := f.Do(line); strings.HasPrefix(answer, "ok") {
				wantAnswer(t, g, line, answer)
			}
		}
		wantPicture(t, fmt.Sprint("seed ", seed), g, pictureOf(f))
	}
}

// P10.7: the lines of the tape, done again, lead to the same floor.
func TestTape(t *testing.T) {
	for seed := range uint64(seeds) {
		f, g := floor.New(), floor.New()
		var done []string
		for _, line := range scriptOf(seed, length) {
			if strings.HasPrefix(f.Do(line), "ok") {
				done = append(done, line)
			}
		}
		tape := f.Tape()
		if want := strings.Join(done, "\n") + "\n"; tape != want {
			t.Fatalf("seed %d: the tape is %q, want %q", seed, tape, want)
		}
		for line := range strings.Lines(tape) {
			line = strings.TrimSuffix(line, "\n")
			if answer := g.Do(line); !strings.HasPrefix(answer, "ok") {
				t.Fatalf("seed %d, %s: %s", seed, line, answer)
			}
		}
		wantPicture(t, fmt.Sprint("seed ", seed), g, pictureOf(f))
		// What follows is the same, too.
		for _, line := range scriptOf(seed+1000, length) {
			wantAnswer(t, g, line, f.Do(line))
		}
	}
	if tape := floor.New().Tape(); tape != "" {
		t.Errorf("the first tape: %q", tape)
	}
}

// P10.3: Run answers what a new floor answers.
func TestRunLikeDo(t *testing.T) {
	for seed := range uint64(seeds) {
		f := floor.New()
		lines := scriptOf(seed, length)
		var want []string
		for _, line := range lines {
			want = append(want, f.Do(line))
		}
		want = slices.DeleteFunc(want, func(answer string) bool { return answer == "" })
		got, e := floor.Run(strings.Join(lines, "\n"))
		if e != 0 || got != strings.Join(want, "\n")+"\n" {
			t.Fatalf("seed %d: error %d, %q, want %q", seed, e, got, want)
		}
	}
}

// P10.8: a netting changes each member's money by its position, and nothing else.
func TestNetting(t *testing.T) {
	nettings := 0
	eachDone("net", func(was, is *floor.Floor, line string, answer []string) {
		nettings++
		for a := 1; a <= members; a++ {
			want, bound := was.Money(a)
			for b := 1; b <= members; b++ {
				want += debtOf(was, b, a) - debtOf(was, a, b)
				if debtOf(is, a, b) != 0 {
					t.Errorf("%d still owes %d", a, b)
				}
			}
			if got, stillBound := is.Money(a); got != want && !elsewhere(was) || stillBound != bound {
				t.Errorf("member %d has %d, %d bound, want %d, %d", a, got, stillBound, want, bound)
			}
		}
	})
	if nettings < 50 {
		t.Errorf("only %d nettings", nettings)
	}
}

func debtOf(f *floor.Floor, a, b int) int64 {
	var debt int64
	scan(f.Do(fmt.Sprintf("debt %d %d", a, b)), "debt %d", &debt)
	return debt
}

// elsewhere tells whether there are debts of the members that come into the lines now and then.
func elsewhere(f *floor.Floor) bool {
	for a := 1; a <= members; a++ {
		for _, b := range []int{members + 1, 21, 1000} {
			if debtOf(f, a, b) != 0 || debtOf(f, b, a) != 0 {
				return true
			}
		}
	}
	return false
}
