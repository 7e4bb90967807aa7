package round_test

import (
	"slices"
	"testing"

	"laystall/api"
	"laystall/round"
	"laystall/street"
)

// question has all arguments that a function of the package can have.
type question struct {
	day                            round.Day
	cart, bin, at, weekday         int
	round, contents, bins, weights []int
	plan                           [][]int
}

// ordinary is a question that every function answers.
func ordinary() question {
	return question{
		day: examples(), bin: 1, at: 22, weekday: 3,
		round: list(2, 0, 1), contents: list(250, 300, 200), bins: list(0, 1), weights: list(5, 6, 4), plan: [][]int{{0, 1}, nil},
	}
}

// fault spoils a question, so that it has an error.
type fault struct {
	spoil func(q *question)
	e     api.Errno
}

// faults puts those of a day before those of the rest of a question.
func faults(rest ...fault) []fault {
	return append([]fault{
		{func(q *question) { q.day.Town.Corners = 9 }, api.ErrRange},
		{func(q *question) { q.day.Town.Streets = append(q.day.Town.Streets, make([]street.Street, 15)...) }, api.ErrCount},
		{func(q *question) { q.day.Town.Streets[1].To = 9 }, api.ErrNoSuch},
		{func(q *question) { q.day.Town.Streets[0].Minutes = 0 }, api.ErrRange},
		{func(q *question) { q.day.Yard = -1 }, api.ErrNoSuch},
		{func(q *question) { q.day.Bins[1].Corner = 9 }, api.ErrNoSuch},
		{func(q *question) { q.day.Carts = append(q.day.Carts, make([]round.Cart, 2)...) }, api.ErrCount},
		{func(q *question) { q.day.Bins = append(q.day.Bins, make([]round.Bin, 4)...) }, api.ErrCount},
		{func(q *question) { q.day.Bins[1].Minutes = 16 }, api.ErrRange},
		{func(q *question) { q.day.Carts[1].Until = 241 }, api.ErrRange},
		{func(q *question) { q.day.Bins[0].Days = list(3, 8) }, api.ErrRange},
		{func(q *question) { q.day.Bins[0].Days = list(3, 0) }, api.ErrOrder},
	}, rest...)
}

func badCart(q *question)  { q.cart = 2 }
func badRound(q *question) { q.round[0] = -1 }
func badTwice(q *question) { q.round[2] = q.round[1] }
func badBins(q *question)  { q.bins[0] = 3 }
func badOrder(q *question) { slices.Reverse(q.bins) }
func badSame(q *question)  { q.bins[0] = q.bins[1] }
func badTip(q *question)   { q.day.Carts[0].Until, q.day.Carts[1].Until = 0, 0 }

// call is a function of the package: whether all its results but the error are zero, and the error.
type call struct {
	name   string
	faults []fault
	ask    func(q question) (bool, api.Errno)
}

// roundCalls are the functions that ask about a round.
func roundCalls() []call {
	rounds := faults(fault{badCart, api.ErrNoSuch}, fault{badRound, api.ErrNoSuch}, fault{badTwice, api.ErrTwice})
	runs := append(slices.Clone(rounds),
		fault{func(q *question) { q.contents = q.contents[:len(q.contents)-1] }, api.ErrCount},
		fault{func(q *question) { q.contents[0] = 251 }, api.ErrRange},
		fault{func(q *question) { q.contents[1] = 49 }, api.ErrRange})
	return []call{
		{"Run", runs, func(q question) (bool, api.Errno) {
			o, e := round.Run(q.day, q.cart, q.round, q.contents)
			return o == round.Outcome{}, e
		}},
		{"Left", append(slices.Clone(runs), fault{func(q *question) { q.at = -1 }, api.ErrRange}, fault{func(q *question) { q.at = 241 }, api.ErrRange}),
			func(q question) (bool, api.Errno) {
				l, e := round.Left(q.day, q.cart, q.round, q.contents, q.at)
				return l == nil, e
			}},
		{"Worst", rounds, func(q question) (bool, api.Errno) {
			o, e := round.Worst(q.day, q.cart, q.round)
			return o == round.Outcome{}, e
		}},
		{"Safe", rounds, func(q question) (bool, api.Errno) {
			is, e := round.Safe(q.day, q.cart, q.round)
			return !is, e
		}},
		{"Fills", rounds, func(q question) (bool, api.Errno) {
			l, e := round.Fills(q.day, q.cart, q.round)
			return l == nil, e
		}},
		{"Filled", append(slices.Clone(rounds),
			fault{func(q *question) { q.bin = 3 }, api.ErrNoSuch}, fault{func(q *question) { q.bin = -1 }, api.ErrNoSuch},
			fault{func(q *question) { q.bin = 2 }, api.ErrNone}),
			func(q question) (bool, api.Errno) {
				l, e := round.Filled(q.day, q.cart, q.round, q.bin)
				return l == nil, e
			}},
		{"Margin", append(slices.Clone(rounds), fault{badTip, api.ErrNone}), func(q question) (bool, api.Errno) {
			if slices.Equal(q.round, list(2, 0, 1)) {
				q.round = q.round[:2] // all three are too much
			}
			n, e := round.Margin(q.day, q.cart, q.round)
			return n == 0, e
		}},
	}
}

// binCalls are the functions that ask about bins, and those that ask about a day alone.
func binCalls() []call {
	bins := faults(fault{badBins, api.ErrNoSuch}, fault{badOrder, api.ErrOrder})
	same := faults(fault{badBins, api.ErrNoSuch}, fault{badSame, api.ErrOrder})
	none := append(slices.Clone(bins), fault{badTip, api.ErrNone})
	return []call{
		{"Order", append(faults(fault{badCart, api.ErrNoSuch}, fault{badBins, api.ErrNoSuch}, fault{badOrder, api.ErrOrder}), fault{badTip, api.ErrNone}),
			func(q question) (bool, api.Errno) {
				l, n, e := round.Order(q.day, q.cart, q.bins)
				return l == nil && n == 0, e
			}},
		{"Fewest", none, func(q question) (bool, api.Errno) {
			l, n, e := round.Fewest(q.day, q.bins)
			return l == nil && n == 0, e
		}},
		{"Spare", none, func(q question) (bool, api.Errno) {
			l, e := round.Spare(q.day, q.bins)
			return l == nil, e
		}},
		{"Covers", same, func(q question) (bool, api.Errno) {
			is, e := round.Covers(q.day, q.bins, q.plan)
			return !is, e
		}},
		{"Bound", append(slices.Clone(bins),
			fault{func(q *question) { q.weights = q.weights[:len(q.weights)-1] }, api.ErrCount},
			fault{func(q *question) { q.weights[0] = 101 }, api.ErrRange}, fault{func(q *question) { q.weights[len(q.weights)-1] = -1 }, api.ErrRange},
			fault{badTip, api.ErrNone}),
			func(q question) (bool, api.Errno) {
				n, e := round.Bound(q.day, q.bins, q.weights)
				return n == 0, e
			}},
		{"Due", faults(fault{func(q *question) { q.weekday = 7 }, api.ErrRange}), func(q question) (bool, api.Errno) {
			l, e := round.Due(q.day, q.weekday)
			return l == nil, e
		}},
		{"Check", faults(), func(q question) (bool, api.Errno) { return true, round.Check(q.day) }},
		{"Hard", faults(), func(q question) (bool, api.Errno) {
			l, e := round.Hard(q.day)
			return l == nil, e
		}},
		{"Weekly", faults(), func(q question) (bool, api.Errno) {
			l, e := round.Weekly(q.day)
			return l == nil, e
		}},
	}
}

// TestErrorsInOrder spoils each question by each fault alone, by it and each one that is named behind it, and by it and all of these: the first one is told, with nothing else.
func TestErrorsInOrder(t *testing.T) {
	for _, c := range append(roundCalls(), binCalls()...) {
		if _, e := c.ask(ordinary()); e != api.OK {
			t.Error(c.name, "of an ordinary question:", e)
		}
		for i, first := range c.faults {
			try := func(faults ...fault) {
				q := ordinary()
				for _, f := range faults {
					f.spoil(&q)
				}
				if zero, e := c.ask(q); e != first.e || !zero {
					t.Error(c.name, "fault", i, "of", len(faults), "error", e, "zero", zero)
				}
			}
			try(first)
			for _, other := range c.faults[i+1:] {
				try(other, first)
			}
			all := slices.Clone(c.faults[i:])
			slices.Reverse(all)
			try(all...)
		}
	}
}

// TestArgumentsAtTheirLimits asks with each argument at its limits, and one beyond.
func TestArgumentsAtTheirLimits(t *testing.T) {
	for _, x := range []struct {
		name   string
		lo, hi int
		e      api.Errno
		ask    func(q question, n int) api.Errno
	}{
		{"cart of a round", 0, 1, api.ErrNoSuch, func(q question, n int) api.Errno { _, e := round.Safe(q.day, n, q.round); return e }},
		{"bin of a round", 0, 2, api.ErrNoSuch, func(q question, n int) api.Errno { _, e := round.Safe(q.day, 0, list(n)); return e }},
		{"cart of bins", 0, 1, api.ErrNoSuch, func(q question, n int) api.Errno { _, _, e := round.Order(q.day, n, nil); return e }},
		{"bin", 0, 2, api.ErrNoSuch, func(q question, n int) api.Errno { _, _, e := round.Order(q.day, 0, list(n)); return e }},
		{"bin of a plan", 0, 2, api.ErrNoSuch, func(q question, n int) api.Errno { _, _, e := round.Fewest(q.day, list(n)); return e }},
		{"contents", 3, 3, api.ErrCount, func(q question, n int) api.Errno {
			_, e := round.Run(q.day, 0, nil, list(250, 300, 200, 0)[:n])
			return e
		}},
		{"pounds", 50, 300, api.ErrRange, func(q question, n int) api.Errno { _, e := round.Run(q.day, 0, nil, list(250, n, 200)); return e }},
		{"minute", 0, 240, api.ErrRange, func(q question, n int) api.Errno { _, e := round.Left(q.day, 0, nil, q.contents, n); return e }},
		{"weights", 3, 3, api.ErrCount, func(q question, n int) api.Errno { _, e := round.Bound(q.day, nil, make([]int, n)); return e }},
		{"weight", 0, 100, api.ErrRange, func(q question, n int) api.Errno { _, e := round.Bound(q.day, nil, list(0, n, 0)); return e }},
		{"weekday", 0, 6, api.ErrRange, func(q question, n int) api.Errno { _, e := round.Due(q.day, n); return e }},
	} {
		for _, n := range list(x.lo-1, x.lo, x.hi, x.hi+1) {
			want := api.OK
			if n < x.lo || n > x.hi {
				want = x.e
			}
			if e := x.ask(ordinary(), n); e != want {
				t.Error(x.name, n, e)
			}
		}
	}
}
