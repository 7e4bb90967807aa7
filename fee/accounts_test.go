package fee_test

import (
	"math"
	"slices"
	"testing"

	"laystall/api"
	"laystall/fee"
)

// TestP106Check asks each number of an account at its limits, and one beyond them.
func TestP106Check(t *testing.T) {
	for i, x := range []struct {
		number func(a *fee.Account) *int
		limits api.Span
	}{
		{func(a *fee.Account) *int { return &a.Grace }, api.Span{Lo: 0, Hi: 60}},
		{func(a *fee.Account) *int { return &a.Late }, api.Span{Lo: 0, Hi: 100}},
		{func(a *fee.Account) *int { return &a.Charges[0].Day }, api.Span{Lo: 0, Hi: 400}},
		{func(a *fee.Account) *int { return &a.Charges[1].Day }, api.Span{Lo: 0, Hi: 400}},
		{func(a *fee.Account) *int { return &a.Payments[0].Day }, api.Span{Lo: 0, Hi: 400}},
		{func(a *fee.Account) *int { return &a.Payments[1].Day }, api.Span{Lo: 0, Hi: 400}},
		{func(a *fee.Account) *int { return &a.Charges[0].Pence }, api.Span{Lo: 1, Hi: 10000}},
		{func(a *fee.Account) *int { return &a.Charges[1].Pence }, api.Span{Lo: 1, Hi: 10000}},
		{func(a *fee.Account) *int { return &a.Payments[0].Pence }, api.Span{Lo: 1, Hi: 10000}},
		{func(a *fee.Account) *int { return &a.Payments[1].Pence }, api.Span{Lo: 1, Hi: 10000}},
	} {
		for _, n := range list(x.limits.Lo, x.limits.Hi, x.limits.Lo-1, x.limits.Hi+1, math.MinInt, math.MaxInt) {
			a := example()
			*x.number(&a) = n
			want := api.OK
			switch {
			case n < x.limits.Lo || n > x.limits.Hi:
				want = api.ErrRange
			case a.Charges[0].Day > a.Charges[1].Day || a.Payments[0].Day > a.Payments[1].Day:
				want = api.ErrOrder
			}
			if e := fee.CheckAccount(a); e != want {
				t.Error(i, n, e)
			}
		}
	}
}

// TestP106Counts asks for all numbers of charges and of payments.
func TestP106Counts(t *testing.T) {
	for charges := range 11 {
		for payments := range 11 {
			want := api.OK
			if charges > 8 || payments > 8 {
				want = api.ErrCount
			}
			a := fee.Account{Charges: slices.Repeat(entries(on(3, 5)), charges), Payments: slices.Repeat(entries(on(2, 4)), payments)}
			if e := fee.CheckAccount(a); e != want {
				t.Error(charges, payments, e)
			}
		}
	}
}

// TestP106Order goes through all days of three charges, or payments, with a few numbers: none is less than the one before.
func TestP106Order(t *testing.T) {
	for a := range 3 {
		for b := range 3 {
			for c := range 3 {
				want := api.OK
				if a > b || b > c {
					want = api.ErrOrder
				}
				some := entries(on(a, 9), on(b, 8), on(c, 7))
				e := fee.CheckAccount(fee.Account{Charges: some})
				f := fee.CheckAccount(fee.Account{Payments: some})
				g := fee.CheckAccount(fee.Account{Payments: entries(on(1, 1)), Charges: some})
				if e != want || f != want || g != want {
					t.Error(a, b, c, e, f, g)
				}
			}
		}
	}
}

// told holds Paid, Rests and Owing of an account on some days against what it comes to day by day.
func told(t *testing.T, b book, days ...int) {
	t.Helper()
	paid, e := fee.Paid(b.Account)
	if !slices.Equal(paid, b.paid) || e != api.OK {
		t.Fatal(b.Account, paid, b.paid, e)
	}
	for _, day := range days {
		want := b.pages[day]
		rests, e := fee.Rests(b.Account, day)
		owing, credit, f := fee.Owing(b.Account, day)
		if !slices.Equal(rests, want.rests) || owing != want.owing || credit != want.credit || e != api.OK || f != api.OK {
			t.Fatal(b.Account, day, rests, owing, credit, want, e, f)
		}
	}
}

// TestP106Every goes through all small accounts, day by day.
func TestP106Every(t *testing.T) {
	paid, not, ahead := 0, 0, 0
	everyAccount(func(a fee.Account) {
		b := bookOf(a, 6)
		told(t, b, 0, 1, 2, 3, 4, 5)
		for i, day := range b.paid {
			paid += count(day > a.Charges[i].Day)
			not += count(day < 0)
			ahead += count(day == a.Charges[i].Day)
		}
	})
	if paid < 5000 || not < 10000 || ahead < 5000 {
		t.Error("charges that are paid after their day, not at all, and on their day:", paid, not, ahead)
	}
}

// TestP106Large asks for greater accounts, on the days of their entries, those before and behind, and some others.
func TestP106Large(t *testing.T) {
	l := &luck{9}
	partly, kept, last := 0, 0, 0
	for range 3000 {
		a := l.account()
		b := bookOf(a, fee.MaxDay+1)
		days := list(0, fee.MaxDay)
		for range 4 {
			days = append(days, l.from(0, fee.MaxDay))
		}
		for _, x := range slices.Concat(a.Charges, a.Payments) {
			days = append(days, x.Day, max(x.Day-1, 0), min(x.Day+1, fee.MaxDay))
		}
		told(t, b, days...)
		for _, day := range days {
			for i, rest := range b.pages[day].rests {
				partly += count(0 < rest && rest < a.Charges[i].Pence)
			}
			kept += count(b.pages[day].credit > 0)
		}
		last += count(slices.Contains(b.paid, fee.MaxDay))
	}
	if partly < 5000 || kept < 5000 || last < 50 {
		t.Error("charges that are paid in part, days on which pence are kept, charges that are paid on the last day:", partly, kept, last)
	}
}

// TestP106Edges asks for the chapter's example, entries of one day, and days at their limits and beyond.
func TestP106Edges(t *testing.T) {
	early := example()
	early.Payments = entries(on(0, 190))
	same := fee.Account{Charges: entries(on(3, 10), on(3, 10), on(4, 5)), Payments: entries(on(3, 4), on(3, 7), on(4, 13))}
	ends := fee.Account{Charges: entries(on(0, 10000), on(400, 10000)), Payments: entries(on(400, 10000), on(400, 10000))}
	for i, x := range []struct {
		a             fee.Account
		day           int
		paid, rests   []int
		owing, credit int
	}{
		{example(), 0, list(25, -1), list(100, 0), 100, 0},
		{example(), 10, list(25, -1), list(40, 0), 40, 0},
		{example(), 20, list(25, -1), list(40, 80), 120, 0},
		{example(), 25, list(25, -1), list(0, 30), 30, 0},
		{early, 0, list(0, 20), list(0, 0), 0, 90},
		{early, 20, list(0, 20), list(0, 0), 0, 10},
		{same, 2, list(3, 4, -1), list(0, 0, 0), 0, 0},
		{same, 3, list(3, 4, -1), list(0, 9, 0), 9, 0},
		{same, 4, list(3, 4, -1), list(0, 0, 1), 1, 0},
		{ends, 0, list(400, 400), list(10000, 0), 10000, 0},
		{ends, 399, list(400, 400), list(10000, 0), 10000, 0},
		{ends, 400, list(400, 400), list(0, 0), 0, 0},
		{fee.Account{Payments: entries(on(7, 3))}, 6, nil, nil, 0, 0},
		{fee.Account{Payments: entries(on(7, 3))}, 7, nil, nil, 0, 3},
		{fee.Account{Charges: entries(on(7, 3))}, 7, list(-1), list(3), 3, 0},
		{fee.Account{}, 9, nil, nil, 0, 0},
	} {
		paid, e := fee.Paid(x.a)
		rests, f := fee.Rests(x.a, x.day)
		owing, credit, g := fee.Owing(x.a, x.day)
		if !slices.Equal(paid, x.paid) || !slices.Equal(rests, x.rests) || owing != x.owing || credit != x.credit {
			t.Error(i, paid, rests, owing, credit)
		}
		noError(t, e, f, g)
	}
	for _, day := range list(-1, 401, math.MinInt, math.MaxInt) {
		rests, e := fee.Rests(example(), day)
		owing, credit, f := fee.Owing(example(), day)
		if rests != nil || owing != 0 || credit != 0 || e != api.ErrRange || f != api.ErrRange {
			t.Error(day, rests, owing, credit, e, f)
		}
	}
}
