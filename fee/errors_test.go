package fee_test

import (
	"math"
	"slices"
	"testing"

	"laystall/api"
	"laystall/fee"
)

// question has all arguments that a function of the package can have.
type question struct {
	tariff                                 []fee.Step
	bill                                   fee.Bill
	shares, left                           []int
	account                                fee.Account
	pounds, pence, house, value, days, day int
}

// ordinary is a question that every function answers.
func ordinary() question {
	return question{
		tariff: tariff(), bill: three(), shares: list(55, 34, 11), left: list(1, 0, 7), account: example(),
		pounds: 1251, pence: 50, house: 0, value: 4, days: 7, day: 30,
	}
}

// copied returns a question that shares no memory with another one.
func copied(q question) question {
	q.tariff, q.bill, q.account = slices.Clone(q.tariff), billOf(q.bill), accountOf(q.account)
	q.shares, q.left = slices.Clone(q.shares), slices.Clone(q.left)
	return q
}

// fault spoils a question, so that it has an error.
type fault struct {
	spoil func(q *question)
	e     api.Errno
}

// ofTariff puts the faults of a tariff before those of the rest of a question.
func ofTariff(rest ...fault) []fault {
	return append([]fault{
		{func(q *question) { q.tariff = append(q.tariff, make([]fee.Step, 3)...) }, api.ErrCount},
		{func(q *question) { q.tariff[0].Upto = 0 }, api.ErrRange},
		{func(q *question) { q.tariff[1].Upto = 20001 }, api.ErrRange},
		{func(q *question) { q.tariff[1].Pence = 501 }, api.ErrRange},
		{func(q *question) { q.tariff[0].Upto = 3000 }, api.ErrOrder},
	}, rest...)
}

// ofBill puts the faults of a bill before those of the rest of a question.
func ofBill(rest ...fault) []fault {
	return append([]fault{
		{func(q *question) { q.bill.Pence = 501 }, api.ErrRange},
		{func(q *question) { q.bill.Houses = append(q.bill.Houses, make([]fee.House, 4)...) }, api.ErrCount},
		{func(q *question) { q.bill.Houses[0].Value = 1001 }, api.ErrRange},
		{func(q *question) { q.bill.Houses[1].Least = -1 }, api.ErrRange},
		{func(q *question) { q.bill.Houses[2].Most = 501 }, api.ErrRange},
		{func(q *question) { q.bill.Houses[2].Least = 102 }, api.ErrRange},
	}, rest...)
}

// ofShares puts the faults of a bill and of shares before those of the rest of a question.
func ofShares(rest ...fault) []fault {
	return ofBill(append([]fault{
		{func(q *question) { q.shares = append(q.shares, 0) }, api.ErrCount},
		{func(q *question) { q.shares[0], q.shares[1] = 90, -1 }, api.ErrRange},
		{func(q *question) { q.shares[2] = 501 }, api.ErrRange},
		{func(q *question) { q.shares[2] = 12 }, api.ErrWrong},
	}, rest...)...)
}

// ofAccount puts the faults of an account before those of the rest of a question.
func ofAccount(rest ...fault) []fault {
	return append([]fault{
		{func(q *question) { q.account.Charges = append(q.account.Charges, make([]fee.Entry, 7)...) }, api.ErrCount},
		{func(q *question) { q.account.Payments = append(q.account.Payments, make([]fee.Entry, 7)...) }, api.ErrCount},
		{func(q *question) { q.account.Grace = 61 }, api.ErrRange},
		{func(q *question) { q.account.Late = 101 }, api.ErrRange},
		{func(q *question) { q.account.Charges[0].Pence = 0 }, api.ErrRange},
		{func(q *question) { q.account.Payments[1].Day = 401 }, api.ErrRange},
		{func(q *question) { q.account.Charges[0].Day = 21 }, api.ErrOrder},
		{func(q *question) { q.account.Payments[0].Day = 26 }, api.ErrOrder},
	}, rest...)
}

// The faults of the other arguments, and those of bills that have no answer.
func noHouse() fault  { return fault{func(q *question) { q.house = 3 }, api.ErrNoSuch} }
func noDay() fault    { return fault{func(q *question) { q.day = 401 }, api.ErrRange} }
func noPounds() fault { return fault{func(q *question) { q.pounds = 20001 }, api.ErrRange} }
func noPence() fault  { return fault{func(q *question) { q.pence = -1 }, api.ErrRange} }
func noValues() fault {
	return fault{func(q *question) {
		for i := range q.bill.Houses {
			q.bill.Houses[i].Value = 0
		}
	}, api.ErrNone}
}
func tooLittle() fault {
	return fault{func(q *question) {
		for i := range q.bill.Houses {
			q.bill.Houses[i].Most = 33
		}
	}, api.ErrNone}
}

// call is a function of the package: whether all its results but the error are zero, and the error.
type call struct {
	name   string
	faults []fault
	ask    func(q question) (bool, api.Errno)
}

// one makes a call of a function that returns a number, several of one that returns a list.
func one(name string, faults []fault, ask func(q question) (int, api.Errno)) call {
	return call{name, faults, func(q question) (bool, api.Errno) {
		n, e := ask(q)
		return n == 0, e
	}}
}
func several[T any](name string, faults []fault, ask func(q question) ([]T, api.Errno)) call {
	return call{name, faults, func(q question) (bool, api.Errno) {
		l, e := ask(q)
		return l == nil, e
	}}
}

// billCalls are the functions that ask about tariffs and bills.
func billCalls() []call {
	return []call{
		{"CheckTariff", ofTariff(), func(q question) (bool, api.Errno) { return true, fee.CheckTariff(q.tariff) }},
		one("Cost", ofTariff(noPounds()), func(q question) (int, api.Errno) { return fee.Cost(q.tariff, q.pounds) }),
		one("Pounds", ofTariff(noPence()), func(q question) (int, api.Errno) { return fee.Pounds(q.tariff, q.pence) }),
		{"Check", ofBill(), func(q question) (bool, api.Errno) { return true, fee.Check(q.bill) }},
		several("Exact", ofBill(noValues()), func(q question) ([]api.Ratio, api.Errno) { return fee.Exact(q.bill) }),
		several("Shares", ofBill(noValues()), func(q question) ([]int, api.Errno) { return fee.Shares(q.bill) }),
		several("Bids", ofBill(tooLittle()), func(q question) ([]int, api.Errno) { return fee.Bids(q.bill) }),
		several("Outbids", ofShares(
			fault{func(q *question) { q.bill.Houses[2].Least = 12 }, api.ErrState},
			fault{func(q *question) { q.bill.Houses[0].Most = 54 }, api.ErrState},
		), func(q question) ([]fee.Pair, api.Errno) { return fee.Outbids(q.bill, q.shares) }),
		{"Appeal", ofBill(noHouse(), fault{func(q *question) { q.value = 1001 }, api.ErrRange}, tooLittle()), func(q question) (bool, api.Errno) {
			l, n, e := fee.Appeal(q.bill, q.house, q.value)
			return l == nil && n == 0, e
		}},
		one("Worth", ofBill(noHouse(), noPence(), tooLittle(), fault{func(q *question) { q.bill.Houses[0].Least, q.pence = 10, 9 }, api.ErrNone}),
			func(q question) (int, api.Errno) { return fee.Worth(q.bill, q.house, q.pence) }),
		{"Refunds", ofShares(
			fault{func(q *question) { q.days = 8 }, api.ErrRange},
			fault{func(q *question) { q.left = append(q.left, -1) }, api.ErrCount},
			fault{func(q *question) { q.left[1] = 8 }, api.ErrRange},
		), func(q question) (bool, api.Errno) {
			l, n, e := fee.Refunds(q.bill, q.shares, q.left, q.days)
			return l == nil && n == 0, e
		}},
	}
}

// accountCalls are the functions that ask about accounts.
func accountCalls() []call {
	return []call{
		{"CheckAccount", ofAccount(), func(q question) (bool, api.Errno) { return true, fee.CheckAccount(q.account) }},
		several("Paid", ofAccount(), func(q question) ([]int, api.Errno) { return fee.Paid(q.account) }),
		several("Rests", ofAccount(noDay()), func(q question) ([]int, api.Errno) { return fee.Rests(q.account, q.day) }),
		{"Owing", ofAccount(noDay()), func(q question) (bool, api.Errno) {
			owing, credit, e := fee.Owing(q.account, q.day)
			return owing == 0 && credit == 0, e
		}},
		{"Late", ofAccount(noDay()), func(q question) (bool, api.Errno) {
			l, n, e := fee.Late(q.account, q.day)
			return l == nil && n == 0, e
		}},
		one("Due", ofAccount(noDay()), func(q question) (int, api.Errno) { return fee.Due(q.account, q.day) }),
	}
}

// TestErrorsInOrder spoils each question by each fault alone, by it and each one that is named behind it, and by it and all of these: the first one is told, with nothing else.
func TestErrorsInOrder(t *testing.T) {
	for _, c := range append(billCalls(), accountCalls()...) {
		if zero, e := c.ask(ordinary()); e != api.OK || zero && c.name != "CheckTariff" && c.name != "Check" && c.name != "CheckAccount" {
			t.Error(c.name, "of an ordinary question:", zero, e)
		}
		for i, first := range c.faults {
			spoiled := func(faults ...fault) {
				q := ordinary()
				for _, f := range faults {
					f.spoil(&q)
				}
				if zero, e := c.ask(q); e != first.e || !zero {
					t.Error(c.name, "fault", i, "of", len(faults), "error", e, "zero", zero)
				}
			}
			spoiled(first)
			for _, other := range c.faults[i+1:] {
				spoiled(other, first)
			}
			all := slices.Clone(c.faults[i:])
			slices.Reverse(all)
			spoiled(all...)
		}
	}
}

// TestListsAreAskedOneErrorAfterTheOther: of several elements with errors the error that is named first decides, not the first element.
func TestListsAreAskedOneErrorAfterTheOther(t *testing.T) {
	if e := fee.CheckTariff(steps(step(5, 1), step(5, 1), step(6, -1))); e != api.ErrRange {
		t.Error("steps:", e)
	}
	if e := fee.CheckAccount(fee.Account{Charges: entries(on(5, 1), on(4, 1)), Payments: entries(on(5, 0))}); e != api.ErrRange {
		t.Error("entries:", e)
	}
	if e := fee.CheckAccount(fee.Account{Charges: entries(on(-5, 0)), Payments: make([]fee.Entry, 9)}); e != api.ErrCount {
		t.Error("payments:", e)
	}
	if _, e := fee.Outbids(bill(5, h(1, 3, 9), h(1, 3, 9)), list(2, -1)); e != api.ErrRange {
		t.Error("shares:", e)
	}
}

// TestArgumentsAtTheirLimits asks with each argument at its limits, and one beyond.
func TestArgumentsAtTheirLimits(t *testing.T) {
	for _, x := range []struct {
		name   string
		lo, hi int
		e      api.Errno
		ask    func(q question, n int) api.Errno
	}{
		{"pounds", 0, 20000, api.ErrRange, func(q question, n int) api.Errno { _, e := fee.Cost(q.tariff, n); return e }},
		{"house of Appeal", 0, 2, api.ErrNoSuch, func(q question, n int) api.Errno { _, _, e := fee.Appeal(q.bill, n, q.value); return e }},
		{"house of Worth", 0, 2, api.ErrNoSuch, func(q question, n int) api.Errno { _, e := fee.Worth(q.bill, n, q.pence); return e }},
		{"value", 0, 1000, api.ErrRange, func(q question, n int) api.Errno { _, _, e := fee.Appeal(q.bill, q.house, n); return e }},
		{"days", 1, 7, api.ErrRange, func(q question, n int) api.Errno {
			_, _, e := fee.Refunds(q.bill, q.shares, list(0, 0, 0), n)
			return e
		}},
		{"left", 0, 7, api.ErrRange, func(q question, n int) api.Errno {
			_, _, e := fee.Refunds(q.bill, q.shares, list(1, 2, n), q.days)
			return e
		}},
		{"day of Rests", 0, 400, api.ErrRange, func(q question, n int) api.Errno { _, e := fee.Rests(q.account, n); return e }},
		{"day of Owing", 0, 400, api.ErrRange, func(q question, n int) api.Errno { _, _, e := fee.Owing(q.account, n); return e }},
		{"day of Late", 0, 400, api.ErrRange, func(q question, n int) api.Errno { _, _, e := fee.Late(q.account, n); return e }},
		{"day of Due", 0, 400, api.ErrRange, func(q question, n int) api.Errno { _, e := fee.Due(q.account, n); return e }},
	} {
		for _, n := range list(x.lo, x.hi, x.lo-1, x.hi+1, math.MinInt, math.MaxInt) {
			want := api.OK
			if n < x.lo || n > x.hi {
				want = x.e
			}
			if e := x.ask(ordinary(), n); e != want {
				t.Error(x.name, n, e)
			}
		}
	}
}
