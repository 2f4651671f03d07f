package house_test

import (
	"fmt"
	"math"
	"slices"
	"testing"

	"oast/api"
	"oast/house"
)

const maxQty = 1000000 // of a contract

func newHouse(t *testing.T, c house.Config) *house.House {
	t.Helper()
	h, e := house.New(c)
	if h == nil || e != api.OK {
		t.Fatalf("New(%+v): %v, error %d", c, h, e)
	}
	return h
}

// free is a house in which nobody needs a margin.
func free(t *testing.T, members int, capital int64, prices ...int64) *house.House {
	t.Helper()
	return newHouse(t, house.Config{Members: members, Months: len(prices), Prices: prices, Capital: capital})
}

// example is the house of the chapter's first example, before its further contract.
func example(t *testing.T) *house.House {
	t.Helper()
	h := newHouse(t, house.Config{Members: 3, Months: 1, Prices: []int64{100}, Moves: [][]int64{{10}, {-20}}, Capital: 50})
	wantOK(t, "Deposit", h.Deposit(1, 100))
	wantOK(t, "Deposit", h.Deposit(2, 100))
	wantTraded(t, h, contract(1, 2, 0, 5, 100), 1)
	return h
}

func contract(buyer, seller, month int, qty, price int64) house.Contract {
	return house.Contract{Buyer: buyer, Seller: seller, Month: month, Qty: qty, Price: price}
}

func wantOK(t *testing.T, what string, e api.Errno) {
	t.Helper()
	if e != api.OK {
		t.Errorf("%s: error %d", what, e)
	}
}

// deposit gives cash to the members, member 1 first.
func deposit(t *testing.T, h *house.House, amounts ...int64) {
	t.Helper()
	for i, x := range amounts {
		if x > 0 {
			wantOK(t, "Deposit", h.Deposit(i+1, x))
		}
	}
}

// contribute gives contributions to the members that come from outside.
func contribute(t *testing.T, h *house.House, amounts ...int64) {
	t.Helper()
	deposit(t, h, amounts...)
	for i, x := range amounts {
		if x > 0 {
			wantOK(t, "Contribute", h.Contribute(i+1, x))
		}
	}
}

// trade makes a contract at the month's price.
func trade(t *testing.T, h *house.House, buyer, seller, month int, qty int64) {
	t.Helper()
	price, e := h.Price(month)
	wantOK(t, "Price", e)
	for qty > 0 {
		part := min(qty, maxQty)
		_, e := h.Trade(contract(buyer, seller, month, part, price))
		wantOK(t, "Trade", e)
		qty -= part
	}
}

// mark marks a month, whoever is called.
func mark(t *testing.T, h *house.House, month int, price int64) {
	t.Helper()
	_, e := h.Mark(month, price)
	wantOK(t, "Mark", e)
}

func wantTraded(t *testing.T, h *house.House, c house.Contract, number int) {
	t.Helper()
	if n, e := h.Trade(c); n != number || e != api.OK {
		t.Errorf("Trade(%+v): %d, error %d, want %d", c, n, e, number)
	}
}

func wantMarked(t *testing.T, h *house.House, month int, price int64, calls ...int) {
	t.Helper()
	if l, e := h.Mark(month, price); e != api.OK || !slices.Equal(l, calls) {
		t.Errorf("Mark(%d, %d): %v, error %d, want %v", month, price, l, e, calls)
	}
	wantCalls(t, h, calls...)
}

func wantDefault(t *testing.T, h *house.House, member int, want house.Loss) {
	t.Helper()
	if l, e := h.Default(member); e != api.OK || l != want {
		t.Errorf("Default(%d): %+v, error %d, want %+v", member, l, e, want)
	}
}

func wantAccount(t *testing.T, h *house.House, member int, cash, fund int64, positions ...int64) {
	t.Helper()
	a, e := h.Account(member)
	if e != api.OK || a.Cash != cash || a.Fund != fund || !slices.Equal(a.Positions, positions) {
		t.Errorf("Account(%d): %+v, error %d, want %d, %d, %v", member, a, e, cash, fund, positions)
	}
}

// wantCash asks for the cash of all members, member 1 first.
func wantCash(t *testing.T, h *house.House, want ...int64) {
	t.Helper()
	wantOfAll(t, h, "cash", func(a house.Account) int64 { return a.Cash }, want)
}

// wantFunds asks for the contributions of all members.
func wantFunds(t *testing.T, h *house.House, want ...int64) {
	t.Helper()
	wantOfAll(t, h, "contributions", func(a house.Account) int64 { return a.Fund }, want)
}

// wantPositions asks for the positions of all members in a month.
func wantPositions(t *testing.T, h *house.House, month int, want ...int64) {
	t.Helper()
	wantOfAll(t, h, "positions", func(a house.Account) int64 { return a.Positions[month] }, want)
}

func wantOfAll(t *testing.T, h *house.House, what string, pick func(house.Account) int64, want []int64) {
	t.Helper()
	var got []int64
	for member := range want {
		a, e := h.Account(member + 1)
		wantOK(t, "Account", e)
		got = append(got, pick(a))
	}
	if _, e := h.Account(len(want) + 1); e != api.ErrNone || !slices.Equal(got, want) {
		t.Errorf("%s: %v, want %v", what, got, want)
	}
}

func wantCapital(t *testing.T, h *house.House, capital, hole int64) {
	t.Helper()
	if c, x := h.Capital(); c != capital || x != hole {
		t.Errorf("Capital: %d, %d, want %d, %d", c, x, capital, hole)
	}
}

func wantTotal(t *testing.T, h *house.House, want int64) {
	t.Helper()
	if got := h.Total(); got != want {
		t.Errorf("Total: %d, want %d", got, want)
	}
}

func wantMargin(t *testing.T, h *house.House, member int, want int64) {
	t.Helper()
	if got, e := h.Margin(member); got != want || e != api.OK {
		t.Errorf("Margin(%d): %d, error %d, want %d", member, got, e, want)
	}
}

func wantWorst(t *testing.T, h *house.House, member, scenario int, loss int64) {
	t.Helper()
	if s, l, e := h.Worst(member); s != scenario || l != loss || e != api.OK {
		t.Errorf("Worst(%d): %d, %d, error %d, want %d, %d", member, s, l, e, scenario, loss)
	}
}

func wantCalls(t *testing.T, h *house.House, want ...int) {
	t.Helper()
	if got := h.Calls(); !slices.Equal(got, want) {
		t.Errorf("Calls: %v, want %v", got, want)
	}
}

func wantPrice(t *testing.T, h *house.House, month int, want int64) {
	t.Helper()
	if got, e := h.Price(month); got != want || e != api.OK {
		t.Errorf("Price(%d): %d, error %d, want %d", month, got, e, want)
	}
}

func wantStress(t *testing.T, h *house.House, scenario int, want ...int64) {
	t.Helper()
	if got, e := h.Stress(scenario); e != api.OK || !slices.Equal(got, want) {
		t.Errorf("Stress(%d): %v, error %d, want %v", scenario, got, e, want)
	}
}

// wantRefused makes a call that is refused, has no effect, and returns nothing else.
func wantRefused(t *testing.T, what string, h *house.House, want api.Errno, call func() (any, api.Errno)) {
	t.Helper()
	was := pictureOf(h)
	got, e := call()
	if e != want {
		t.Errorf("%s: error %d, want %d", what, e, want)
	}
	if s := fmt.Sprint(got); !slices.Contains([]string{"0", "[]", "{0 0 0 0 0}", "<nil>"}, s) {
		t.Errorf("%s: %s next to error %d", what, s, e)
	}
	if got := pictureOf(h); got != was {
		t.Errorf("%s: the house is %s, was %s", what, got, was)
	}
}

// wantNotPaid asks for the error of all calls that move money.
func wantNotPaid(t *testing.T, h *house.House, member int, amount int64, want api.Errno) {
	t.Helper()
	wantRefused(t, fmt.Sprintf("Deposit(%d, %d)", member, amount), h, want, func() (any, api.Errno) { return nil, h.Deposit(member, amount) })
	wantNotTaken(t, h, member, amount, want)
}

// wantNotTaken asks for the error of the calls that take from the cash.
func wantNotTaken(t *testing.T, h *house.House, member int, amount int64, want api.Errno) {
	t.Helper()
	wantRefused(t, fmt.Sprintf("Withdraw(%d, %d)", member, amount), h, want, func() (any, api.Errno) { return nil, h.Withdraw(member, amount) })
	wantRefused(t, fmt.Sprintf("Contribute(%d, %d)", member, amount), h, want, func() (any, api.Errno) { return nil, h.Contribute(member, amount) })
}

func wantNotTraded(t *testing.T, h *house.House, c house.Contract, want api.Errno) {
	t.Helper()
	wantRefused(t, fmt.Sprintf("Trade(%+v)", c), h, want, func() (any, api.Errno) { return h.Trade(c) })
}

// wantNotDelivered asks for the error of a delivery from the buyer to the seller of a contract.
func wantNotDelivered(t *testing.T, h *house.House, c house.Contract, want api.Errno) {
	t.Helper()
	wantRefused(t, fmt.Sprintf("Deliver(%+v)", c), h, want, func() (any, api.Errno) { return nil, h.Deliver(c.Buyer, c.Seller, c.Month, c.Qty) })
}

func wantNotMarked(t *testing.T, h *house.House, month int, price int64, want api.Errno) {
	t.Helper()
	wantRefused(t, fmt.Sprintf("Mark(%d, %d)", month, price), h, want, func() (any, api.Errno) { return h.Mark(month, price) })
}

func wantNoDefault(t *testing.T, h *house.House, member int, want api.Errno) {
	t.Helper()
	wantRefused(t, fmt.Sprintf("Default(%d)", member), h, want, func() (any, api.Errno) { return h.Default(member) })
}

// picture is all that a house tells of itself.
type picture struct {
	accounts      []house.Account
	margins       []int64
	worst         [][2]int64
	calls         []int
	prices        []int64
	capital, hole int64
	contracts     []house.Contract
	stress        [][]int64
	total         int64
}

// pictureOf is the picture of a house as a string, in which an empty slice and nil are the same.
func pictureOf(h *house.House) string {
	p := picture{calls: h.Calls(), total: h.Total()}
	p.capital, p.hole = h.Capital()
	for member := 1; ; member++ {
		a, e := h.Account(member)
		if e != api.OK {
			break
		}
		margin, _ := h.Margin(member)
		scenario, loss, _ := h.Worst(member)
		p.accounts, p.margins, p.worst = append(p.accounts, a), append(p.margins, margin), append(p.worst, [2]int64{int64(scenario), loss})
	}
	for month := 0; ; month++ {
		x, e := h.Price(month)
		if e != api.OK {
			break
		}
		p.prices = append(p.prices, x)
	}
	for scenario := 0; ; scenario++ {
		l, e := h.Stress(scenario)
		if e != api.OK {
			break
		}
		p.stress = append(p.stress, l)
	}
	for n := 1; ; n++ {
		c, e := h.Contract(n)
		if e != api.OK {
			break
		}
		p.contracts = append(p.contracts, c)
	}
	return fmt.Sprint(p)
}

// outside are numbers that are not from least to most.
func outside(least, most int) []int {
	return []int{math.MinInt, least - 1, most + 1, math.MaxInt}
}

// outside64 are amounts that are not from least to most.
func outside64(least, most int64) []int64 {
	return []int64{math.MinInt64, least - 1, most + 1, math.MaxInt64}
}
