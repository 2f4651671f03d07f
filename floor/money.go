package floor

import (
	"maps"
	"slices"

	"oast/api"
	"oast/net"
)

// debt is who owes something to whom.
type debt struct{ from, to int }

func isAmount(n int64) bool { return n >= 1 && n <= api.MaxMoney }

func (f *Floor) pay(member int, amount int64) api.Errno {
	if !isMember(member) || !isAmount(amount) || f.accounts[member].money+amount > api.MaxMoney {
		return api.ErrArg
	}
	f.accounts[member].money += amount
	return api.OK
}

func (f *Floor) draw(member int, amount int64) api.Errno {
	switch {
	case !isMember(member) || !isAmount(amount):
		return api.ErrArg
	case amount > f.accounts[member].free():
		return api.ErrFunds
	}
	f.accounts[member].money -= amount
	return api.OK
}

// transfer moves money of a member who has so much.
func (f *Floor) transfer(from, to int, amount int64) {
	f.accounts[from].money -= amount
	f.accounts[to].money += amount
}

func (f *Floor) owe(d debt, amount int64) api.Errno {
	switch {
	case !isMember(d.from) || !isMember(d.to) || d.from == d.to || amount < 1 || amount > api.MaxDebt:
		return api.ErrArg
	case f.debts[d]+amount > api.MaxDebt || len(f.parties(d.from, d.to)) > api.MaxParties:
		return api.ErrFull
	}
	f.debts[d] += amount
	return api.OK
}

// parties returns the members that have debts, and some more, rising.
func (f *Floor) parties(more ...int) []int {
	met := map[int]bool{}
	for _, member := range more {
		met[member] = true
	}
	for d := range f.debts {
		met[d.from], met[d.to] = true, true
	}
	return slices.Sorted(maps.Keys(met))
}

// net settles all debts and returns by how many transfers.
func (f *Floor) net() ([]int, api.Errno) {
	parties := f.parties()
	if len(parties) == 0 {
		return nil, api.ErrState
	}
	table := f.debtTable(parties) // a valid one, by what owe takes
	positions, _ := net.Positions(table)
	for i, member := range parties {
		if -positions[i] > f.accounts[member].free() {
			return nil, api.ErrFunds
		}
	}
	transfers, _ := net.Settle(table)
	for _, t := range transfers {
		f.transfer(parties[t.From], parties[t.To], t.Amount)
	}
	clear(f.debts)
	return []int{len(transfers)}, api.OK
}

// debtTable returns what each of some members owes each of them.
func (f *Floor) debtTable(parties []int) [][]int64 {
	table := make([][]int64, len(parties))
	for i, from := range parties {
		for _, to := range parties {
			table[i] = append(table[i], f.debts[debt{from, to}])
		}
	}
	return table
}
