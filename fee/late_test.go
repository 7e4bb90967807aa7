package fee_test

import (
	"math"
	"slices"
	"testing"

	"laystall/api"
	"laystall/fee"
)

// tells holds Late and Due of an account on a day against what it comes to day by day, and returns them.
func tells(t *testing.T, b book, day int) (late []int, due int) {
	t.Helper()
	late, costs, e := fee.Late(b.Account, day)
	due, f := fee.Due(b.Account, day)
	want, n := b.late(day)
	if !slices.Equal(late, want) || costs != n || e != api.OK || f != api.OK {
		t.Fatal(b.Account, day, late, costs, want, n, e, f)
	}
	if due < 0 || !helps(b.Account, day, due) || due > 0 && helps(b.Account, day, due-1) {
		t.Fatal(b.Account, day, due)
	}
	return late, due
}

// TestP107Every goes through all small accounts, day by day.
func TestP107Every(t *testing.T) {
	paid, due, both := 0, 0, 0
	everyAccount(func(a fee.Account) {
		b := bookOf(a, 7)
		for day := range 7 {
			late, pence := tells(t, b, day)
			for _, i := range late {
				paid += count(b.pages[day].rests[i] == 0)
			}
			due += count(pence > 0)
			both += count(len(late) == 2)
		}
	})
	if paid < 1000 || due < 5000 || both < 5000 {
		t.Error("charges that are late and paid, days on which something is due, and on which two charges are late:", paid, due, both)
	}
}

// TestP107Large asks for greater accounts, on days on which charges can become late, those before and behind, and some others.
func TestP107Large(t *testing.T) {
	l := &luck{10}
	several, parts, before := 0, 0, 0
	for range 600 {
		a := l.account()
		b := bookOf(a, fee.MaxDay+1)
		days := list(0, fee.MaxDay, l.from(0, fee.MaxDay))
		for _, c := range a.Charges {
			for day := c.Day + a.Grace - 1; day <= c.Day+a.Grace+1; day++ {
				days = append(days, min(max(day, 0), fee.MaxDay))
			}
		}
		for _, day := range days {
			late, due := tells(t, b, day)
			several += count(len(late) > 1)
			last, ours := 0, 0
			for i, c := range a.Charges {
				if c.Day+a.Grace == day {
					last += b.pages[day].rests[i]
					ours += c.Pence
				}
			}
			parts += count(0 < due && due < ours)
			before += count(due > last)
		}
	}
	if several < 1000 || parts < 200 || before < 200 {
		t.Error("days on which several charges are late, on which parts of charges are due, and rests of charges before them:", several, parts, before)
	}
}

// TestP107Edges asks for the chapter's example, charges of one day, no grace, and days at their limits and beyond.
func TestP107Edges(t *testing.T) {
	same := fee.Account{Charges: entries(on(3, 10), on(3, 10), on(4, 5)), Payments: entries(on(3, 4), on(3, 7), on(4, 13)), Late: 33}
	never := example()
	never.Payments = nil
	last := fee.Account{Charges: entries(on(340, 10000), on(341, 10000), on(400, 1)), Grace: 60, Late: 100}
	just := fee.Account{Charges: entries(on(5, 7)), Payments: entries(on(8, 7)), Grace: 3, Late: 1}
	after := fee.Account{Charges: entries(on(5, 7)), Payments: entries(on(8, 6), on(9, 1)), Grace: 3}
	for i, x := range []struct {
		a          fee.Account
		day        int
		late       []int
		costs, due int
	}{
		{example(), 0, nil, 0, 0},
		{example(), 9, nil, 0, 0},
		{example(), 10, nil, 0, 40},
		{example(), 11, list(0), 5, 0},
		{example(), 25, list(0), 5, 0},
		{example(), 30, list(0), 5, 30},
		{example(), 31, list(0, 1), 9, 0},
		{example(), 400, list(0, 1), 9, 0},
		{never, 30, list(0), 5, 180},
		{same, 3, nil, 0, 9},
		{same, 4, list(1), 4, 1},
		{same, 5, list(1, 2), 6, 0},
		{last, 399, nil, 0, 0},
		{last, 400, nil, 0, 10000},
		{just, 8, nil, 0, 0},
		{just, 9, nil, 0, 0},
		{after, 7, nil, 0, 0},
		{after, 8, nil, 0, 1},
		{after, 9, list(0), 0, 0},
		{after, 400, list(0), 0, 0},
		{fee.Account{}, 9, nil, 0, 0},
		{fee.Account{Payments: entries(on(3, 3)), Late: 100}, 9, nil, 0, 0},
	} {
		late, costs, e := fee.Late(x.a, x.day)
		due, f := fee.Due(x.a, x.day)
		if !slices.Equal(late, x.late) || costs != x.costs || due != x.due {
			t.Error(i, late, costs, due)
		}
		noError(t, e, f)
	}
	last.Grace = 59
	if late, costs, e := fee.Late(last, 400); !slices.Equal(late, list(0)) || costs != 10000 || e != api.OK {
		t.Error(late, costs, e)
	}
	for _, day := range list(-1, 401, math.MinInt, math.MaxInt) {
		late, costs, e := fee.Late(example(), day)
		due, f := fee.Due(example(), day)
		if late != nil || costs != 0 || due != 0 || e != api.ErrRange || f != api.ErrRange {
			t.Error(day, late, costs, due, e, f)
		}
	}
}
