package floor_test

import (
	"strings"
	"testing"

	"oast/api"
	"oast/floor"
)

// long is a line made longer, by one number that is repeated, to so many bytes.
func long(line string, bytes int) string {
	return line + strings.Repeat(" 0", (bytes-len(line))/2)
}

// The chapter's examples.
func TestExamples(t *testing.T) {
	f := after(t, `
		enter 1 10 7 1: ok
		grade 7 3: ok
		pay 2 1000: ok
		sell 3 1 50 4 1: ok 1
		buy 3 2 60 3 1: ok 2 50 3
		money 2: money 850 0
		money 1: money 150 0
		hops 2 3: hops 3 0
		hops 1 3: hops 7 1
		pocket 1: pocket 1 7 2 0
		buy 3 2 50 18 1: error 9
		move 4 7 1 2: error 9
		move 4 6 1 2: ok
	`)
	want := "enter 1 10 7 1\ngrade 7 3\npay 2 1000\nsell 3 1 50 4 1\nbuy 3 2 60 3 1\nmove 4 6 1 2\n"
	if got := f.Tape(); got != want {
		t.Errorf("tape: %q, want %q", got, want)
	}
	f = after(t, `
		pay 1 5: ok
		pay 2 4: ok
		owe 1 2 5: ok
		owe 2 4 9: ok
		net: ok 2
	`)
	wantMoney(t, f, 0, 0, 0, 9)
	play(t, f, `
		fair 2 2 2 0 1 2 1 0 1 2 1 0 1 2 0 1: ok 0 1
		sample 0 3 0: sample
		Buy: error 100
	`)
}

// P10.1: comments are answered by an empty string.
func TestComments(t *testing.T) {
	f := floor.New()
	was := pictureOf(f)
	for _, line := range []string{"", "#", "# pay 1 1", "#pay 1 1", "#  ", "##", "#\n", "#\xff", "#" + strings.Repeat("x", api.MaxLine-1)} {
		wantAnswer(t, f, line, "")
	}
	wantPicture(t, "comments", f, was)
}

// P10.1: a line of more than 512 bytes is too long, whatever it is; one of 512 is not.
func TestLongLines(t *testing.T) {
	f := after(t, `
		pay 1 10: ok
		enter 1 3 1 1: ok
	`)
	bytes := api.MaxLine + 1
	wantRefused(t, f, api.ErrLong,
		"#"+strings.Repeat("x", bytes-1),
		strings.Repeat(" ", bytes),
		strings.Repeat("x", bytes),
		long("pay 1 1", bytes),
		long("fair 0 0", bytes+1),
		long("money 1", 2*bytes),
		strings.Repeat("#", 65537),
	)
	wantRefused(t, f, api.ErrLine, strings.Repeat(" ", bytes-1), strings.Repeat("x", bytes-1), long("money 1", bytes-2))
	// 64 brewers that take nobody, and growers of whom the first ones like brewer 0.
	fair := func(liking int) string {
		return "fair 64 64" + strings.Repeat(" 1 0", liking) + strings.Repeat(" 0", 64-liking) + strings.Repeat(" 0 0", 64)
	}
	if line := fair(59); len(line) != api.MaxLine || f.Do(line) != "ok"+strings.Repeat(" -1", 64) {
		t.Errorf("%d bytes: %s", len(line), f.Do(line))
	}
	wantRefused(t, f, api.ErrLong, fair(60))
}

// P10.1: a line that is neither a command nor a question. The same lines in their right form are done.
func TestNoLines(t *testing.T) {
	f := after(t, `
		pay 1 10: ok
		enter 1 3 1 1: ok
		owe 1 2 3: ok
	`)
	wantRefused(t, f, api.ErrLine,
		// words
		"Buy", "PAY 1 1", "pays 1 1", "pa 1 1", "1", "-", "1 pay 1", "error 1", "ok", "money#1", "x # y", "\xff", "\x00",
		// blanks
		" ", "  ", " #", " # x", " pay 1 1", "pay 1 1 ", "pay  1 1", "pay 1  1", "pay\t1 1", "pay 1\t1", "pay 1 1\n", "pay 1 1\r", "\npay 1 1",
		"pay\u00a01 1", "pay 1\u20031", " net", "net ", " audit", "audit ", "audit\n", "\r", "\t",
		// numbers
		"pay 1 01", "pay 01 1", "pay 1 +1", "pay 1 -0", "pay 1 00", "pay 1 --1", "pay 1 1-", "pay 1 -", "pay 1 1e1", "pay 1 0x1", "pay 1 1_0",
		"pay 1 1.0", "pay 1 1,0", "pay 1 one", "pay 1 1x", "pay 1 1\xff", "pay 1 1\x00", "pay 1 \u0661", "pay 1 \uff11", "pay 1 -01",
		"pay 1 1000000000001", "pay 1 -1000000000001", "pay 1 9223372036854775807", "pay 1 9223372036854775808",
		"pay 1 18446744073709551617", "pay 1 -9223372036854775809", "pay 1 100000000000000000000000000000000000001",
		// a number that is none comes before what else is wrong
		"pay 0 01", "owe 1 1 x", "buy 0 0 0 0 x", "call 0 1000000000001", "money x", "fair -1 x", "fair 65 0 x",
	)
	play(t, f, `
		pay 1 -1000000000000: error 1
		pay 1 1000000000000: error 1
		pay 1 0: error 1
		pay 1 1: ok
	`)
}

// P10.1, R1: each line has as many numbers as its form says; that it has not comes before what else is wrong.
func TestHowManyNumbers(t *testing.T) {
	forms := map[string]int{
		"enter": 4, "leave": 3, "move": 4, "pledge": 4, "release": 3, "seize": 3, "grade": 2, "pay": 2, "draw": 2, "buy": 5, "sell": 5,
		"cancel": 3, "bid": 4, "ask": 4, "call": 2, "owe": 3, "net": 0,
		"money": 1, "hops": 2, "pocket": 1, "best": 1, "last": 1, "debt": 2, "sample": 3, "audit": 0,
	}
	for word, numbers := range forms {
		for n := range 8 {
			for _, number := range []string{" 0", " 1", " -1"} {
				f := floor.New()
				answer := f.Do(word + strings.Repeat(number, n))
				if (answer == "error 100") != (n != numbers) {
					t.Errorf("%s with %d numbers%s: %s", word, n, number, answer)
				}
			}
		}
	}
}

// The form of fair.
func TestFairForm(t *testing.T) {
	f := floor.New()
	wantRefused(t, f, api.ErrLine,
		"fair", "fair 0", "fair 1", "fair 0 0 0", "fair 1 0", "fair 0 1", "fair 0 1 0", "fair 0 1 0 0 0", "fair 1 0 0 0", "fair 1 0 1",
		"fair -1 0", "fair 0 -1", "fair -1 -1", "fair 1 0 -1", "fair 0 1 1 -1", "fair 1 1 -1 1 0", "fair 1 1 1 0 1 -1 0",
		"fair 1000000000000 0", "fair 0 1000000000000", "fair 1000000000000 1000000000000 0 0", "fair 1 0 1000000000000", "fair 0 1 1 1000000000000 0",
		"fair 65 0", "fair 1 1 1 0 1 1", "fair 1 1 1 0 1 1 0 0", "fair 1 1 1 0 -1", "fair 1 1 1 0 99",
	)
	wantRefused(t, f, api.ErrLong, "fair 65 0"+strings.Repeat(" 0", 65), "fair 0 65"+strings.Repeat(" 0", 130), "fair 65 1"+strings.Repeat(" 0", 65)+" -1 0")
	wantRefused(t, f, api.ErrArg, "fair 0 1 -1 0", "fair 0 1 65 0", "fair 1 1 1 9 65 0", "fair 0 2 0 0 -1 0")
	wantRefused(t, f, api.ErrList, "fair 1 0 1 0", "fair 1 1 2 0 1 1 0", "fair 1 1 1 1 1 0", "fair 1 1 1 -1 1 0", "fair 1 1 2 0 0 1 0", "fair 0 1 1 1 0", "fair 1 1 0 1 2 0 0")
	play(t, f, `
		fair 0 0: ok
		fair 0 2 1 0 64 0: ok
		fair 2 0 0 0: ok -1 -1
		fair 2 1 1 0 1 0 2 2 0 1: ok 0 0
		fair 2 1 1 0 1 0 1 2 1 0: ok -1 0
		fair 2 2 2 0 1 2 0 1 1 2 1 0 0 2 0 1: ok -1 0
		fair 2 2 2 0 1 2 1 0 1 2 1 0 1 2 0 1: ok 0 1
	`)
	want := "fair 0 0\nfair 0 2 1 0 64 0\nfair 2 0 0 0\nfair 2 1 1 0 1 0 2 2 0 1\nfair 2 1 1 0 1 0 1 2 1 0\n" +
		"fair 2 2 2 0 1 2 0 1 1 2 1 0 0 2 0 1\nfair 2 2 2 0 1 2 1 0 1 2 1 0 1 2 0 1\n"
	if got := f.Tape(); got != want {
		t.Errorf("tape: %q, want %q", got, want)
	}
}

// P10.3: scripts.
func TestRun(t *testing.T) {
	scripts := map[string]string{
		"":                                   "",
		"\n":                                 "",
		"\n\n# x\n":                          "",
		"audit":                              "audit 0 0\n",
		"audit\n":                            "audit 0 0\n",
		"\naudit\n\n#\naudit\n":              "audit 0 0\naudit 0 0\n",
		"pay 1 5\nmoney 1\n#\nx\nmoney 1":    "ok\nmoney 5 0\nerror 100\nmoney 5 0\n",
		"pay 1 5\r\nmoney 1\n":               "error 100\nmoney 0 0\n",
		" \naudit \n":                        "error 100\nerror 100\n",
		"audit\x00\n\xff\n":                  "error 100\nerror 100\n",
		"audit\u2028audit\vaudit\faudit":     "error 100\n",
		strings.Repeat("#", 512) + "\naudit": "audit 0 0\n",
		strings.Repeat("#", 513) + "\naudit": "error 2\naudit 0 0\n",
		"enter 1 2 1 1\nowner 1\npocket 2\n": "ok\nerror 100\npocket 1 1 1 0\n",
	}
	for text, want := range scripts {
		if got, e := floor.Run(text); got != want || e != api.OK {
			t.Errorf("Run(%.60q): %q, error %d, want %q", text, got, e, want)
		}
	}
}

// P10.3: how long a script may be.
func TestLongScripts(t *testing.T) {
	const most = 65536
	lines := strings.Repeat("pay 1 1\n", api.MaxLines)
	comments := strings.Repeat("#"+strings.Repeat("x", 510)+"\n", most/512)
	scripts := map[string]api.Errno{
		lines:                                   api.OK,
		lines + "audit":                         api.OK,
		lines + "\n":                            api.ErrLong,
		lines + "audit\n":                       api.ErrLong,
		strings.Repeat("\n", api.MaxLines):      api.OK,
		strings.Repeat("\n", api.MaxLines+1):    api.ErrLong,
		comments:                                api.OK,
		comments[1:] + "#":                      api.OK,
		comments + "#":                          api.ErrLong,
		comments + "\n":                         api.ErrLong,
		strings.Repeat("x", most):               api.OK,
		strings.Repeat("x", most+1):             api.ErrLong,
		strings.Repeat("\u00e4", most/2):        api.OK,
		strings.Repeat("\u00e4", most/2) + "\n": api.ErrLong,
	}
	for text, want := range scripts {
		got, e := floor.Run(text)
		if e != want || e != api.OK && got != "" {
			t.Errorf("Run of %d bytes and %d lines: %.60q, error %d, want %d", len(text), strings.Count(text, "\n"), got, e, want)
		}
	}
	if got, _ := floor.Run(lines + "audit"); got != strings.Repeat("ok\n", api.MaxLines)+"audit 2000 0\n" {
		t.Errorf("Run: %.60q", got)
	}
	if got, _ := floor.Run(strings.Repeat("x", most)); got != "error 2\n" {
		t.Errorf("Run: %.60q", got)
	}
}

// P10.3: each script has a floor of its own.
func TestRunsAreNew(t *testing.T) {
	for range 2 {
		if got, e := floor.Run("pay 1 5\naudit\n"); got != "ok\naudit 5 0\n" || e != api.OK {
			t.Errorf("Run: %q, error %d", got, e)
		}
	}
}

// P10.3: a floor that is nil.
func TestNil(t *testing.T) {
	var f *floor.Floor
	for _, line := range []string{"", "#", "audit", "pay 1 1", "x", strings.Repeat("x", api.MaxLine+1)} {
		wantAnswer(t, f, line, "error 3")
	}
	if f.Tape() != "" || f.Owner(1) != 0 || f.Total() != 0 || f.Pockets() != 0 || f.Trades(1) != nil || f.Fork() != nil {
		t.Error("a nil floor has something")
	}
	if all, bound := f.Money(1); all != 0 || bound != 0 {
		t.Errorf("Money of nil: %d, %d", all, bound)
	}
}
