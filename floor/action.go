package floor

import (
	"oast/api"
	"oast/board"
	"oast/call"
	"oast/pair"
	"oast/stock"
)

// anyNumbers is for lines that tell by themselves how many numbers they have.
const anyNumbers = -1

// action is what is done with the numbers of a line; it returns the numbers of the answer.
type action struct {
	numbers int // how many there are in the line
	do      func(n []int) ([]int, api.Errno)
}

// perform does what a line says. Only commands that were done are put on the tape.
func (f *Floor) perform(line string) (string, error) {
	word, numbers := read(line)
	first := "ok"
	a, isCommand := f.commands[word]
	if !isCommand {
		first = word
		a = f.questions[word]
	}
	if a.do == nil || a.numbers != anyNumbers && a.numbers != len(numbers) {
		panic(noLine{})
	}
	results, e := a.do(numbers)
	if e != api.OK {
		return "", failure{word, refusal(e)}
	}
	if isCommand {
		f.tape = append(f.tape, line...)
		f.tape = append(f.tape, '\n')
	}
	return say(first, results...), nil
}

// commandTable returns what changes the floor.
func (f *Floor) commandTable() map[string]action {
	return map[string]action{
		"enter": {4, func(n []int) ([]int, api.Errno) { return nil, f.enter(span(n), n[2], n[3]) }},
		"leave": {3, func(n []int) ([]int, api.Errno) { return nil, f.leave(span(n), n[2]) }},
		"move": {4, func(n []int) ([]int, api.Errno) {
			return nil, f.giveUp(n[2], func(s *stock.Stock) api.Errno { return s.Move(span(n), n[2], n[3]) })
		}},
		"pledge": {4, func(n []int) ([]int, api.Errno) {
			return nil, f.giveUp(n[2], func(s *stock.Stock) api.Errno { return s.Pledge(span(n), n[2], n[3]) })
		}},
		"release": {3, func(n []int) ([]int, api.Errno) { return nil, f.register.Release(span(n), n[2]) }},
		"seize":   {3, func(n []int) ([]int, api.Errno) { return nil, f.register.Seize(span(n), n[2]) }},
		"grade":   {2, func(n []int) ([]int, api.Errno) { return nil, f.grade(n[0], n[1]) }},
		"pay":     {2, func(n []int) ([]int, api.Errno) { return nil, f.pay(n[0], int64(n[1])) }},
		"draw":    {2, func(n []int) ([]int, api.Errno) { return nil, f.draw(n[0], int64(n[1])) }},
		"buy":     {5, func(n []int) ([]int, api.Errno) { return f.order(n[0], orderOf(api.Buy, n)) }},
		"sell":    {5, func(n []int) ([]int, api.Errno) { return f.order(n[0], orderOf(api.Sell, n)) }},
		"cancel":  {3, func(n []int) ([]int, api.Errno) { return nil, f.cancel(n[0], n[1], n[2]) }},
		"bid":     {4, func(n []int) ([]int, api.Errno) { return nil, f.bid(n[0], bidOf(api.Buy, n)) }},
		"ask":     {4, func(n []int) ([]int, api.Errno) { return nil, f.bid(n[0], bidOf(api.Sell, n)) }},
		"call":    {2, func(n []int) ([]int, api.Errno) { return f.call(n[0], n[1]) }},
		"owe":     {3, func(n []int) ([]int, api.Errno) { return nil, f.owe(debt{n[0], n[1]}, int64(n[2])) }},
		"net":     {0, func([]int) ([]int, api.Errno) { return f.net() }},
		"fair":    {anyNumbers, func(n []int) ([]int, api.Errno) { return pair.Growers(fairOf(n)) }},
	}
}

// questionTable returns what has no effect.
func (f *Floor) questionTable() map[string]action {
	return map[string]action{
		"money":  {1, func(n []int) ([]int, api.Errno) { return f.tellMoney(n[0]) }},
		"hops":   {2, func(n []int) ([]int, api.Errno) { return f.tellHops(n[0], n[1]) }},
		"pocket": {1, func(n []int) ([]int, api.Errno) { return f.tellPocket(n[0]) }},
		"best":   {1, func(n []int) ([]int, api.Errno) { return f.tellBest(n[0]) }},
		"last":   {1, func(n []int) ([]int, api.Errno) { return f.tellLast(n[0]) }},
		"debt":   {2, func(n []int) ([]int, api.Errno) { return f.tellDebt(debt{n[0], n[1]}) }},
		"sample": {3, func(n []int) ([]int, api.Errno) { return tellSample(n[0], n[1], n[2]) }},
		"audit":  {0, func([]int) ([]int, api.Errno) { return []int{int(f.Total()), f.Pockets()}, api.OK }},
	}
}

// span is the pockets that a line begins with.
func span(n []int) api.Span { return api.Span{From: n[0], Count: n[1]} }

func orderOf(side int, n []int) board.Order {
	o := board.Order{Member: n[1], Side: side, Kind: board.Limit, Force: n[4], Price: int64(n[2]), Qty: int64(n[3])}
	if o.Price == 0 {
		o.Kind = board.Market
	}
	return o
}

func bidOf(side int, n []int) offer {
	return offer{n[1], call.Bid{Side: side, Price: int64(n[2]), Qty: int64(n[3])}}
}
