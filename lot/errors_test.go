package lot_test

import (
	"slices"
	"testing"

	"laystall/api"
	"laystall/lot"
)

// question has all arguments that a function of the package can have.
type question struct {
	store                               lot.Store
	picking, opened, found, most, grade int
	lot, foul, inside, prices           []int
	plan                                [][]int
}

// ordinary is a question that every function answers.
func ordinary() question {
	return question{
		store: examples(), picking: 1, opened: 4, found: 1, grade: 1,
		lot: list(4, 4, 0), foul: list(2, 1, 1), inside: list(2, 1, 0), prices: list(6, 10, 10),
		plan: [][]int{list(4, 2, 0), list(0, 4, 0)},
	}
}

// copied returns a question that shares no memory with another one.
func copied(q question) question {
	q.store, q.plan = copyOf(q.store), slices.Clone(q.plan)
	for _, l := range []*[]int{&q.lot, &q.foul, &q.inside, &q.prices} {
		*l = slices.Clone(*l)
	}
	for i := range q.plan {
		q.plan[i] = slices.Clone(q.plan[i])
	}
	return q
}

// fault spoils a question, so that it has an error.
type fault struct {
	spoil func(q *question)
	e     api.Errno
}

// faults puts those of a store before those of the rest of a question.
func faults(rest ...fault) []fault {
	return append([]fault{
		{func(q *question) { q.store.Pickings = append(q.store.Pickings, make([]lot.Picking, 2)...) }, api.ErrCount},
		{func(q *question) { q.store.Grades = append(q.store.Grades, make([]lot.Grade, 3)...) }, api.ErrCount},
		{func(q *question) { q.store.Pickings[0].Sacks = 7 }, api.ErrRange},
		{func(q *question) { q.store.Pickings[0].Worst = 5 }, api.ErrRange},
		{func(q *question) { q.store.Pickings[1].Opened = -1 }, api.ErrRange},
		{func(q *question) { q.store.Pickings[2].Found = 3 }, api.ErrRange},
		{func(q *question) { q.store.Grades[1].Foul = 101 }, api.ErrRange},
		{func(q *question) { q.store.Grades[1].Price = 0 }, api.ErrRange},
		{func(q *question) { q.store.Lots = 4 }, api.ErrRange},
		{func(q *question) { q.store.Grades[0].Price = 6 }, api.ErrOrder},
		{func(q *question) { q.store.Pickings[1].Worst, q.store.Pickings[1].Found = 0, 1 }, api.ErrClash},
	}, rest...)
}

// ofLot puts the faults of a store and of a lot before those of the rest of a question.
func ofLot(rest ...fault) []fault {
	return faults(append([]fault{
		{func(q *question) { q.lot = append(q.lot, 0) }, api.ErrCount},
		{func(q *question) { q.lot[2] = 4 }, api.ErrRange},
	}, rest...)...)
}

// The faults of the other arguments, in the order in which functions ask for them.
func badPicking() fault { return fault{func(q *question) { q.picking = 3 }, api.ErrNoSuch} }
func badMany() fault    { return fault{func(q *question) { q.opened = 5 }, api.ErrRange} }
func badFound() fault   { return fault{func(q *question) { q.found = 6 }, api.ErrRange} }
func noTruth() fault {
	return fault{func(q *question) { q.store.Pickings[q.picking%3].Worst = 0 }, api.ErrClash}
}
func badFoul() fault   { return fault{func(q *question) { q.foul = q.foul[:2] }, api.ErrCount} }
func badInside() fault { return fault{func(q *question) { q.inside = q.inside[:2] }, api.ErrCount} }
func badGrade() fault  { return fault{func(q *question) { q.grade = 2 }, api.ErrNoSuch} }
func noGrade() fault {
	return fault{func(q *question) { q.store.Grades[1].Foul, q.store.Grades[0].Foul = 1, 0 }, api.ErrNone}
}
func badSample() fault { return fault{func(q *question) { q.opened = 99 }, api.ErrRange} }
func badMost() fault   { return fault{func(q *question) { q.most = -1 }, api.ErrRange} }
func allFoul() fault   { return fault{func(q *question) { q.found = q.opened }, api.ErrClash} }
func badCount() fault {
	return fault{func(q *question) { q.plan = append(q.plan, list(0), list(9, 9, 9)) }, api.ErrCount}
}
func badFirst() fault  { return fault{func(q *question) { q.plan[0] = list(1, 1) }, api.ErrCount} }
func badSecond() fault { return fault{func(q *question) { q.plan[0] = list(1, 1, 9) }, api.ErrRange} }
func badThird() fault  { return fault{func(q *question) { q.plan[1] = list(7) }, api.ErrCount} }
func badFourth() fault { return fault{func(q *question) { q.plan[1] = list(7, 0, 0) }, api.ErrRange} }
func tooMuch() fault {
	return fault{func(q *question) { q.plan = [][]int{list(4, 3, 0), list(0, 4, 0)} }, api.ErrWrong}
}
func badPrices() fault {
	return fault{func(q *question) { q.prices = append(q.prices, 0) }, api.ErrCount}
}
func badPrice() fault { return fault{func(q *question) { q.prices[2] = 101 }, api.ErrRange} }
func lowPrices() fault {
	return fault{func(q *question) { q.prices[0] = 0; q.prices[1] = 9 }, api.ErrWrong}
}

// call is a function of the package: whether all its results but the error are zero, and the error.
type call struct {
	name   string
	faults []fault
	ask    func(q question) (bool, api.Errno)
}

// storeCalls are the functions that ask about stores, pickings and plans.
func storeCalls() []call {
	return []call{
		{"Check", faults(), func(q question) (bool, api.Errno) { return true, lot.Check(q.store) }},
		{"Foul", faults(badPicking()), func(q question) (bool, api.Errno) {
			s, e := lot.Foul(q.store, q.picking)
			return s == empty(), e
		}},
		{"Open", faults(badPicking(), badMany(), badFound(), noTruth()), func(q question) (bool, api.Errno) {
			s, e := lot.Open(q.store, q.picking, q.opened, q.found)
			return s.Pickings == nil && s.Grades == nil && s.Lots == 0, e
		}},
		{"Most", faults(badGrade(), noGrade()), func(q question) (bool, api.Errno) {
			l, e := lot.Most(q.store, q.grade)
			return l == nil, e
		}},
		{"Best", faults(), func(q question) (bool, api.Errno) {
			l, n, e := lot.Best(q.store)
			return l == nil && n == 0, e
		}},
		{"Earns", faults(badCount(), badFirst(), badSecond(), badThird(), badFourth(), tooMuch()), func(q question) (bool, api.Errno) {
			n, e := lot.Earns(q.store, q.plan)
			return n == 0, e
		}},
		{"Bound", faults(badPrices(), badPrice(), lowPrices()), func(q question) (bool, api.Errno) {
			n, e := lot.Bound(q.store, q.prices)
			return n == 0, e
		}},
		{"Pays", faults(badPicking(), badMany()), func(q question) (bool, api.Errno) {
			s, e := lot.Pays(q.store, q.picking, q.opened)
			return s == empty(), e
		}},
	}
}

// lotCalls are the functions that ask about one lot.
func lotCalls() []call {
	return []call{
		{"Span", ofLot(), func(q question) (bool, api.Errno) {
			s, e := lot.Span(q.store, q.lot)
			return s == empty(), e
		}},
		{"Bad", ofLot(), func(q question) (bool, api.Errno) {
			foul, inside, e := lot.Bad(q.store, q.lot)
			return foul == nil && inside == nil, e
		}},
		{"Possible", ofLot(badFoul(), badInside()), func(q question) (bool, api.Errno) {
			is, e := lot.Possible(q.store, q.lot, q.foul, q.inside)
			return !is, e
		}},
		{"Sure", ofLot(), func(q question) (bool, api.Errno) {
			n, e := lot.Sure(q.store, q.lot)
			return n == 0, e
		}},
		{"Brings", ofLot(), func(q question) (bool, api.Errno) {
			n, e := lot.Brings(q.store, q.lot)
			return n == 0, e
		}},
		{"Spare", ofLot(badGrade(), badPicking(), noGrade()), func(q question) (bool, api.Errno) {
			n, e := lot.Spare(q.store, q.lot, q.grade, q.picking)
			return n == 0, e
		}},
		{"Kept", ofLot(badSample(), badMost()), func(q question) (bool, api.Errno) {
			is, e := lot.Kept(q.store, q.lot, q.opened, q.most)
			return !is, e
		}},
		{"Left", ofLot(badSample(), badFound(), allFoul()), func(q question) (bool, api.Errno) {
			s, e := lot.Left(q.store, q.lot, q.opened, q.found)
			return s == empty(), e
		}},
		{"Tells", ofLot(badSample(), badFound(), allFoul()), func(q question) (bool, api.Errno) {
			l, e := lot.Tells(q.store, q.lot, q.opened, q.found)
			return l == nil, e
		}},
	}
}

// TestErrorsInOrder spoils each question by each fault alone, by it and each one that is named behind it, and by it and all of these: the first one is told, with nothing else.
func TestErrorsInOrder(t *testing.T) {
	for _, c := range append(storeCalls(), lotCalls()...) {
		if _, e := c.ask(ordinary()); e != api.OK {
			t.Error(c.name, "of an ordinary question:", e)
		}
		for i, first := range c.faults {
			try := func(faults ...fault) {
				q := ordinary()
				for _, f := range faults {
					f.spoil(&q)
				}
				if zero, e := c.ask(q); e != first.e || !zero {
					t.Error(c.name, "fault", i, "of", len(faults), "error", e, "zero", zero)
				}
			}
			try(first)
			for _, other := range c.faults[i+1:] {
				try(other, first)
			}
			all := slices.Clone(c.faults[i:])
			slices.Reverse(all)
			try(all...)
		}
	}
}
