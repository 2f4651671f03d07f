package floor

import (
	"strconv"

	"oast/api"
	"oast/pair"
)

// noLine is the value of the panic by which a line that is none leaves the reader.
type noLine struct{}

// refusal is the error of a line that is refused: the code that is answered.
type refusal api.Errno

func (r refusal) Error() string { return "refused with " + strconv.Itoa(int(r)) }

// failure tells to what word of a line a refusal came.
type failure struct {
	word  string
	cause error
}

func (x failure) Error() string { return x.word + ": " + x.cause.Error() }

// Unwrap returns what the failure came from.
func (x failure) Unwrap() error { return x.cause }

// cut cuts a text into the parts between the runes of a kind.
func cut(text string, between rune) []string {
	var parts []string
	first := 0
	for at, r := range text {
		if r == between {
			parts = append(parts, text[first:at])
			first = at + 1 // such a rune has one byte
		}
	}
	return append(parts, text[first:])
}

// read returns the word that a line begins with, and the numbers behind it. Blanks at an end, or two in a row, make an empty word,
// which is neither a word that is known nor a number.
func read(line string) (word string, numbers []int) {
	words := cut(line, ' ')
	for _, w := range words[1:] {
		numbers = append(numbers, number(w))
	}
	return words[0], numbers
}

func number(word string) int {
	n, err := strconv.Atoi(word)
	// Atoi takes leading zeros and signs too that no number is written with.
	if err != nil || strconv.Itoa(n) != word || n < -api.MaxMoney || n > api.MaxMoney {
		panic(noLine{})
	}
	return n
}

// list is numbers of a line that are still to be read.
type list []int

func (l *list) next() int {
	if len(*l) == 0 {
		panic(noLine{})
	}
	n := (*l)[0]
	*l = (*l)[1:]
	return n
}

// length reads how many things follow.
func (l *list) length() int {
	n := l.next()
	if n < 0 {
		panic(noLine{})
	}
	return n
}

// part reads how many numbers follow, and these.
func (l *list) part() []int {
	var numbers []int
	for range l.length() {
		numbers = append(numbers, l.next())
	}
	return numbers
}

// fairOf reads a fair that takes all the numbers.
func fairOf(l list) pair.Fair {
	var f pair.Fair
	growers := l.length()
	brewers := l.length()
	for range growers {
		f.Growers = append(f.Growers, l.part())
	}
	for range brewers {
		f.Quotas = append(f.Quotas, l.next())
		f.Brewers = append(f.Brewers, l.part())
	}
	if len(l) > 0 {
		panic(noLine{})
	}
	return f
}

// say returns an answer: a word, and numbers behind it.
func say(word string, numbers ...int) string {
	answer := []byte(word)
	for _, n := range numbers {
		answer = append(answer, ' ')
		answer = strconv.AppendInt(answer, int64(n), 10)
	}
	return string(answer)
}

func sayError(e api.Errno) string { return say("error", int(e)) }
