package rat_test

import (
	"slices"
	"testing"

	"laystall/api"
	"laystall/rat"
)

// question has all arguments that a function of the package can have.
type question struct {
	colony                                    rat.Colony
	truth                                     rat.Truth
	way, houses                               []int
	from, house, night, reach, percent, weeks int
	most                                      bool
}

// ordinary is a question that every function answers, but for Short and Clash: no houses are short.
func ordinary() question {
	return question{
		colony: examples(),
		truth:  rat.Truth{Caught: [][]int{{2, 0, 0}, {0, 1, 0}, {0, 0, 1}, {1, 0, 0}, {2, 0, 1}, {0, 0, 0}}, Left: list(0, 0, 4)},
		way:    list(0, 1), houses: list(0, 2),
		from: 2, house: 1, night: 1, reach: 1, percent: 50, weeks: 2, most: true,
	}
}

// copied returns a question that shares no memory with another one.
func copied(q question) question {
	q.colony, q.way, q.houses = copyOf(q.colony), slices.Clone(q.way), slices.Clone(q.houses)
	q.truth.Caught, q.truth.Left = slices.Clone(q.truth.Caught), slices.Clone(q.truth.Left)
	for i, l := range q.truth.Caught {
		q.truth.Caught[i] = slices.Clone(l)
	}
	return q
}

// fault spoils a question, so that it has an error.
type fault struct {
	spoil func(q *question)
	e     api.Errno
}

// faults puts those of a colony before those of the rest of a question.
func faults(rest ...fault) []fault {
	return append([]fault{
		{func(q *question) { q.colony.Rooms = append(q.colony.Rooms, 1) }, api.ErrCount},
		{func(q *question) { q.colony.Traps = append(q.colony.Traps, 1, 1, 1) }, api.ErrCount},
		{func(q *question) { q.colony.Runs = append(q.colony.Runs, make([]rat.Run, 11)...) }, api.ErrCount},
		{func(q *question) { q.colony.Nights = slices.Repeat(q.colony.Nights, 4) }, api.ErrCount},
		{func(q *question) { q.colony.Nights[1] = append(q.colony.Nights[1], 0) }, api.ErrCount},
		{func(q *question) { q.colony.Rooms[1] = 61 }, api.ErrRange},
		{func(q *question) { q.colony.Traps[1] = 10 }, api.ErrRange},
		{func(q *question) { q.colony.Nights[0][2] = 2 }, api.ErrRange},
		{func(q *question) { q.colony.Nights[0][0] = -1 }, api.ErrRange},
		{func(q *question) { q.colony.Runs[0].A = 8 }, api.ErrNoSuch},
		{func(q *question) { q.colony.Runs[1] = rat.Run{A: 1, B: 1} }, api.ErrTwice},
	}, rest...)
}

// ofSpot puts the faults of a colony, a house and a night before those of the rest of a question.
func ofSpot(rest ...fault) []fault {
	return faults(append([]fault{
		{func(q *question) { q.house = 8 }, api.ErrNoSuch},
		{func(q *question) { q.night = 8 }, api.ErrNoSuch},
	}, rest...)...)
}

// The faults of the other arguments.
func clash() fault {
	return fault{func(q *question) { q.colony.Rooms[0] = 0 }, api.ErrClash}
}
func farReach() fault { return fault{func(q *question) { q.reach = 4 }, api.ErrRange} }

// narrow returns a colony that clashes, if its first room is not large.
func narrow(q question) rat.Colony {
	c := copyOf(q.colony)
	if len(c.Rooms) == 3 && c.Rooms[0] < 60 {
		c.Rooms[0], c.Rooms[2] = min(c.Rooms[0], 1), min(c.Rooms[2], 2)
	}
	return c
}

// call is a function of the package: whether all its results but the error are zero, and the error.
type call struct {
	name   string
	faults []fault
	ask    func(q question) (bool, api.Errno)
}

// wayCalls are the functions that ask about colonies, ways and truths.
func wayCalls() []call {
	return []call{
		{"Check", faults(), func(q question) (bool, api.Errno) { return true, rat.Check(q.colony) }},
		{"Full", ofSpot(), func(q question) (bool, api.Errno) {
			is, e := rat.Full(q.colony, q.house, q.night)
			return !is, e
		}},
		{"Origins", ofSpot(), func(q question) (bool, api.Errno) {
			l, e := rat.Origins(q.colony, q.house, q.night)
			return l == nil, e
		}},
		{"Way", ofSpot(
			fault{func(q *question) { q.from = 8 }, api.ErrNoSuch},
			fault{func(q *question) { q.from = 1 }, api.ErrNone},
		), func(q question) (bool, api.Errno) {
			l, e := rat.Way(q.colony, q.from, q.house, q.night)
			return l == nil, e
		}},
		{"Gone", faults(
			fault{func(q *question) { q.way = append(q.way, 1) }, api.ErrCount},
			fault{func(q *question) { q.way[0] = 8 }, api.ErrNoSuch},
		), func(q question) (bool, api.Errno) {
			is, e := rat.Gone(q.colony, q.way)
			return !is, e
		}},
		{"Rats", faults(clash()), func(q question) (bool, api.Errno) {
			s, e := rat.Rats(q.colony)
			return s == empty(), e
		}},
		{"Starts", faults(clash()), func(q question) (bool, api.Errno) {
			l, e := rat.Starts(q.colony)
			return l == nil, e
		}},
		{"Find", faults(clash()), func(q question) (bool, api.Errno) {
			t, e := rat.Find(q.colony, q.most)
			return t.Caught == nil && t.Left == nil, e
		}},
		{"Fits", faults(
			fault{func(q *question) { q.truth.Caught = append(q.truth.Caught, list(0, 0, 0)) }, api.ErrCount},
			fault{func(q *question) { q.truth.Caught[3] = list(1, 0) }, api.ErrCount},
			fault{func(q *question) { q.truth.Left = append(q.truth.Left, 0) }, api.ErrCount},
		), func(q question) (bool, api.Errno) {
			is, e := rat.Fits(q.colony, q.truth)
			return !is, e
		}},
	}
}

// houseCalls are the functions that ask where rats are, which houses are short, and about baits.
func houseCalls() []call {
	return []call{
		{"After", faults(clash()), func(q question) (bool, api.Errno) {
			l, e := rat.After(q.colony)
			return l == nil, e
		}},
		{"Need", faults(clash()), func(q question) (bool, api.Errno) {
			l, e := rat.Need(q.colony)
			return l == nil, e
		}},
		{"Short", faults(
			fault{func(q *question) { q.houses = append(q.houses, 8) }, api.ErrNoSuch},
			fault{func(q *question) { q.houses = append(list(2), q.houses...) }, api.ErrOrder},
			fault{func(q *question) { q.houses[0] = 1 }, api.ErrWrong},
		), func(q question) (bool, api.Errno) {
			n, e := rat.Short(narrow(q), q.houses)
			return n == 0, e
		}},
		{"Clash", faults(fault{func(q *question) { q.colony.Rooms[0] = 60 }, api.ErrNone}), func(q question) (bool, api.Errno) {
			l, e := rat.Clash(narrow(q))
			return l == nil, e
		}},
		{"Reaches", faults(fault{func(q *question) { q.house = 8 }, api.ErrNoSuch}, farReach()), func(q question) (bool, api.Errno) {
			l, e := rat.Reaches(q.colony, q.house, q.reach)
			return l == nil, e
		}},
		{"Baits", faults(farReach(), clash()), func(q question) (bool, api.Errno) {
			l, e := rat.Baits(q.colony, q.reach)
			return l == nil, e
		}},
		{"Apart", faults(farReach(), clash()), func(q question) (bool, api.Errno) {
			l, e := rat.Apart(q.colony, q.reach)
			return l == nil, e
		}},
		{"Grow", faults(
			fault{func(q *question) { q.percent = 101 }, api.ErrRange},
			fault{func(q *question) { q.weeks = -1 }, api.ErrRange},
			clash(),
		), func(q question) (bool, api.Errno) {
			s, e := rat.Grow(q.colony, q.percent, q.weeks)
			return s == empty(), e
		}},
	}
}

// TestErrorsInOrder spoils each question by each fault alone, by it and each one that is named behind it, and by it and all of these: the first one is told, with nothing else.
func TestErrorsInOrder(t *testing.T) {
	for _, c := range append(wayCalls(), houseCalls()...) {
		if zero, e := c.ask(ordinary()); e != api.OK || zero && c.name != "Check" {
			t.Error(c.name, "of an ordinary question:", zero, e)
		}
		for i, first := range c.faults {
			spoiled := func(faults ...fault) {
				q := ordinary()
				for _, f := range faults {
					f.spoil(&q)
				}
				if zero, e := c.ask(q); e != first.e || !zero {
					t.Error(c.name, "fault", i, "of", len(faults), "error", e, "zero", zero)
				}
			}
			spoiled(first)
			for _, other := range c.faults[i+1:] {
				spoiled(other, first)
			}
			all := slices.Clone(c.faults[i:])
			slices.Reverse(all)
			spoiled(all...)
		}
	}
}
