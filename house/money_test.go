package house_test

import (
	"testing"

	"oast/api"
	"oast/house"
)

// P9.2: cash comes and goes, contributions come from the cash.
func TestMoney(t *testing.T) {
	h := free(t, 3, 7, 100)
	wantOK(t, "Deposit", h.Deposit(1, 1))
	wantOK(t, "Deposit", h.Deposit(3, api.MaxMoney))
	wantOK(t, "Deposit", h.Deposit(3, api.MaxMoney))
	wantCash(t, h, 1, 0, 2*api.MaxMoney)
	wantOK(t, "Withdraw", h.Withdraw(3, api.MaxMoney))
	wantOK(t, "Contribute", h.Contribute(3, 30))
	wantOK(t, "Contribute", h.Contribute(3, 3))
	wantOK(t, "Contribute", h.Contribute(1, 1))
	wantCash(t, h, 0, 0, api.MaxMoney-33)
	wantFunds(t, h, 1, 0, 33)
	wantOK(t, "Withdraw", h.Withdraw(3, api.MaxMoney-33))
	wantCash(t, h, 0, 0, 0)
	wantFunds(t, h, 1, 0, 33)
	wantTotal(t, h, 41)
	wantCapital(t, h, 7, 0)
}

// P9.2: what is refused, and in which order.
func TestMoneyRefused(t *testing.T) {
	h := example(t) // member 1 has 100 and needs 100, member 2 has 100 and needs 50
	for _, member := range outside(1, 3) {
		wantNotPaid(t, h, member, 10, api.ErrNone)
		wantNotPaid(t, h, member, 0, api.ErrNone)
	}
	for _, amount := range outside64(1, api.MaxMoney) {
		wantNotPaid(t, h, 1, amount, api.ErrArg)
		wantNotPaid(t, h, 3, amount, api.ErrArg)
	}
	wantNotTaken(t, h, 3, 1, api.ErrFunds)
	wantNotTaken(t, h, 1, 101, api.ErrFunds)
	wantNotTaken(t, h, 1, api.MaxMoney, api.ErrFunds)
	wantNotTaken(t, h, 1, 100, api.ErrMargin)
	wantNotTaken(t, h, 1, 1, api.ErrMargin)
	wantNotTaken(t, h, 2, 101, api.ErrFunds)
	wantNotTaken(t, h, 2, 51, api.ErrMargin)
	wantOK(t, "Withdraw", h.Withdraw(2, 20))
	wantOK(t, "Contribute", h.Contribute(2, 30))
	wantNotTaken(t, h, 2, 1, api.ErrMargin)
	wantAccount(t, h, 2, 50, 30, -5)

	wantMarked(t, h, 0, 70, 1) // member 1 has -50
	wantNotTaken(t, h, 1, 1, api.ErrFunds)
	wantDefault(t, h, 1, house.Loss{Capital: 50})
	for _, amount := range []int64{1, 0, -1, api.MaxMoney, api.MaxMoney + 1} {
		wantNotPaid(t, h, 1, amount, api.ErrState)
	}
	wantNotPaid(t, h, 0, 1, api.ErrNone)
}

// P9.2: who is out keeps its cash and its contribution, and gets neither.
func TestMoneyOfWhoIsOut(t *testing.T) {
	h := free(t, 2, 0, 100)
	contribute(t, h, 5, 0)
	deposit(t, h, 10, 0)
	wantDefault(t, h, 1, house.Loss{})
	for _, amount := range []int64{1, 10, 11, 0, -1} {
		wantNotPaid(t, h, 1, amount, api.ErrState)
	}
	wantAccount(t, h, 1, 10, 5, 0)
	wantTotal(t, h, 15)
}
