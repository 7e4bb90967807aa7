package street_test

import (
	"testing"

	"laystall/api"
	"laystall/street"
)

// question has all arguments that a function of the package can have.
type question struct {
	town                      street.Town
	cart                      street.Cart
	leg                       street.Leg
	from, to, at, by, street  int
	legs                      []street.Leg
	table, corners, throughOf []int
}

// ordinary is a question that every function answers.
func ordinary() question {
	return question{town: examples(), cart: cart(3, 0), leg: forth(0), to: 3, by: 240, street: 1, legs: []street.Leg{forth(2), forth(3)}, table: []int{0, 5, 9, 23}, corners: []int{0, 2}, throughOf: []int{1, 2}}
}

// fault spoils a question, so that it has an error.
type fault struct {
	spoil func(q *question)
	e     api.Errno
}

// townFaults are the errors of Check, in their order.
func townFaults() []fault {
	return []fault{
		{func(q *question) { q.town.Corners = 9 }, api.ErrRange},
		{func(q *question) { q.town.Streets = append(q.town.Streets, make([]street.Street, 13)...) }, api.ErrCount},
		{func(q *question) { q.town.Streets[3].To = 9 }, api.ErrNoSuch},
		{func(q *question) { q.town.Streets[0].Minutes = 0 }, api.ErrRange},
	}
}

// faults puts those of a town and a cart before those of the rest of a question.
func faults(rest ...fault) []fault {
	list := append(townFaults(),
		fault{func(q *question) { q.cart.Wide = 10 }, api.ErrRange},
		fault{func(q *question) { q.cart.Load = -1 }, api.ErrRange})
	return append(list, rest...)
}

func badFrom(q *question)   { q.from = -1 }
func badTo(q *question)     { q.to = 4 }
func badStreet(q *question) { q.street = 4 }
func badAt(q *question)     { q.at = 241 }
func badBy(q *question)     { q.by = -1 }

// call is a function of the package: whether all its results but the error are zero, and the error.
type call struct {
	name   string
	faults []fault
	ask    func(q question) (bool, api.Errno)
}

// townCalls are the functions that ask about towns, streets and minutes.
func townCalls() []call {
	return []call{
		{"Check", townFaults(), func(q question) (bool, api.Errno) { return true, street.Check(q.town) }},
		{"Mirror", townFaults(), func(q question) (bool, api.Errno) {
			m, e := street.Mirror(q.town)
			return m.Corners == 0 && m.Streets == nil, e
		}},
		{"Pass", faults(
			fault{func(q *question) { q.leg.Street = 4 }, api.ErrNoSuch},
			fault{badAt, api.ErrRange},
			fault{func(q *question) { q.leg = back(1) }, api.ErrNone},
		), func(q question) (bool, api.Errno) {
			n, e := street.Pass(q.town, q.cart, q.leg, q.at)
			return n == 0, e
		}},
		{"Earliest", faults(fault{badFrom, api.ErrNoSuch}, fault{badAt, api.ErrRange}), func(q question) (bool, api.Errno) {
			l, e := street.Earliest(q.town, q.cart, q.from, q.at)
			return l == nil, e
		}},
		{"Latest", faults(fault{badTo, api.ErrNoSuch}, fault{badBy, api.ErrRange}), func(q question) (bool, api.Errno) {
			l, e := street.Latest(q.town, q.cart, q.to, q.by)
			return l == nil, e
		}},
		{"Spare", faults(
			fault{badFrom, api.ErrNoSuch}, fault{badTo, api.ErrNoSuch}, fault{badAt, api.ErrRange}, fault{badBy, api.ErrRange},
			fault{func(q *question) { q.by = 22 }, api.ErrNone},
		), func(q question) (bool, api.Errno) {
			n, e := street.Spare(q.town, q.cart, q.from, q.to, q.at, q.by)
			return n == 0, e
		}},
		{"Heaviest", faults(
			fault{badFrom, api.ErrNoSuch}, fault{badTo, api.ErrNoSuch}, fault{badAt, api.ErrRange}, fault{badBy, api.ErrRange},
			fault{func(q *question) { q.by = 22 }, api.ErrNone},
		), func(q question) (bool, api.Errno) {
			wide := q.cart.Wide
			if q.cart.Load < 0 { // Heaviest has no load that could be wrong
				wide = 0
			}
			n, e := street.Heaviest(q.town, wide, q.from, q.to, q.at, q.by)
			return n == 0, e
		}},
		{"Later", faults(
			fault{badFrom, api.ErrNoSuch}, fault{badTo, api.ErrNoSuch}, fault{badStreet, api.ErrNoSuch}, fault{badAt, api.ErrRange},
			fault{func(q *question) { q.at = 230 }, api.ErrNone},
			fault{func(q *question) { q.street = 3 }, api.ErrState},
		), func(q question) (bool, api.Errno) {
			n, e := street.Later(q.town, q.cart, q.from, q.to, q.at, q.street)
			return n == 0, e
		}},
	}
}

// driveCalls are the functions that ask about drives, proofs and tours.
func driveCalls() []call {
	return []call{
		{"Drive", faults(
			fault{badFrom, api.ErrNoSuch}, fault{badTo, api.ErrNoSuch}, fault{badAt, api.ErrRange},
			fault{func(q *question) { q.at = 230 }, api.ErrNone},
		), func(q question) (bool, api.Errno) {
			l, n, e := street.Drive(q.town, q.cart, q.from, q.to, q.at)
			return l == nil && n == 0, e
		}},
		{"Follow", faults(
			fault{badFrom, api.ErrNoSuch}, fault{func(q *question) { q.legs[len(q.legs)-1].Street = 4 }, api.ErrNoSuch}, fault{badAt, api.ErrRange},
			fault{func(q *question) { q.legs = make([]street.Leg, 61) }, api.ErrCount},
			fault{func(q *question) { q.legs = []street.Leg{forth(1), forth(3)} }, api.ErrWrong},
		), func(q question) (bool, api.Errno) {
			c, m, e := street.Follow(q.town, q.cart, q.from, q.at, q.legs)
			return c == 0 && m == 0, e
		}},
		{"Bounds", faults(
			fault{badFrom, api.ErrNoSuch}, fault{badAt, api.ErrRange},
			fault{func(q *question) { q.table = q.table[:3] }, api.ErrCount},
			fault{func(q *question) { q.table[2] = 241 }, api.ErrRange},
		), func(q question) (bool, api.Errno) {
			is, e := street.Bounds(q.town, q.cart, q.from, q.at, q.table)
			return !is, e
		}},
		{"Reach", faults(fault{badFrom, api.ErrNoSuch}), func(q question) (bool, api.Errno) {
			l, e := street.Reach(q.town, q.cart, q.from)
			return l == nil, e
		}},
		{"Out", faults(
			fault{func(q *question) { q.corners = []int{2, 0, 4} }, api.ErrNoSuch},
			fault{func(q *question) { q.corners = []int{2, 0} }, api.ErrOrder},
		), func(q question) (bool, api.Errno) {
			l, e := street.Out(q.town, q.cart, q.corners)
			return l == nil, e
		}},
		{"Bars", append(faults(fault{badFrom, api.ErrNoSuch}, fault{badTo, api.ErrNoSuch}, fault{badAt, api.ErrRange}),
			fault{func(q *question) {}, api.ErrNone},
		), func(q question) (bool, api.Errno) {
			l, e := street.Bars(q.town, q.cart, q.from, q.to, q.at)
			return l == nil, e
		}},
		{"Tour", faults(
			fault{badFrom, api.ErrNoSuch}, fault{func(q *question) { q.throughOf[0] = -1 }, api.ErrNoSuch}, fault{badAt, api.ErrRange},
			fault{func(q *question) { q.throughOf = []int{0, 1, 2, 3, 0, 1, 2} }, api.ErrCount},
			fault{func(q *question) { q.throughOf = []int{1, 2, 1} }, api.ErrTwice},
			fault{func(q *question) { q.at = 220 }, api.ErrNone},
		), func(q question) (bool, api.Errno) {
			l, n, e := street.Tour(q.town, q.cart, q.from, q.at, q.throughOf)
			return l == nil && n == 0, e
		}},
	}
}

// TestErrorsInOrder spoils each question by each fault and all that are named behind it: the first one is told, with nothing else.
func TestErrorsInOrder(t *testing.T) {
	for _, c := range append(townCalls(), driveCalls()...) {
		if _, e := c.ask(ordinary()); e != api.OK && c.name != "Bars" {
			t.Error(c.name, "of an ordinary question:", e)
		}
		for i, first := range c.faults {
			q := ordinary()
			for k := len(c.faults) - 1; k >= i; k-- {
				c.faults[k].spoil(&q)
			}
			if zero, e := c.ask(q); e != first.e || !zero {
				t.Error(c.name, "fault", i, "error", e, "zero", zero)
			}
			q = ordinary()
			first.spoil(&q)
			if zero, e := c.ask(q); e != first.e || !zero {
				t.Error(c.name, "fault", i, "alone: error", e, "zero", zero)
			}
		}
	}
}

// TestCartsAndMinutesAtTheirLimits asks with each number at its limits, and one beyond.
func TestCartsAndMinutesAtTheirLimits(t *testing.T) {
	set := map[string]func(q *question, n int){
		"wide": func(q *question, n int) { q.cart.Wide = n },
		"load": func(q *question, n int) { q.cart.Load = n },
		"at":   func(q *question, n int) { q.at = n },
		"by":   func(q *question, n int) { q.by = n },
		"from": func(q *question, n int) { q.from = n },
		"to":   func(q *question, n int) { q.to = n },
	}
	for _, x := range []struct {
		name   string
		lo, hi int
		e      api.Errno
	}{
		{"wide", 1, 9, api.ErrRange},
		{"load", 0, 9, api.ErrRange},
		{"at", 0, 240, api.ErrRange},
		{"by", 0, 240, api.ErrRange},
		{"from", 0, 3, api.ErrNoSuch},
		{"to", 0, 3, api.ErrNoSuch},
	} {
		for _, n := range []int{x.lo - 1, x.lo, x.hi, x.hi + 1} {
			q := ordinary()
			set[x.name](&q, n)
			want := api.OK
			if n < x.lo || n > x.hi {
				want = x.e
			}
			_, e1 := street.Earliest(q.town, q.cart, q.from, q.at)
			_, e2 := street.Latest(q.town, q.cart, q.to, q.by)
			if e := max(e1, e2); e != want {
				t.Error(x.name, n, e)
			}
		}
	}
}
