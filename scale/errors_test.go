package scale_test

import (
	"math"
	"slices"
	"testing"

	"laystall/api"
	"laystall/scale"
)

// question has all arguments that a function of the package can have.
type question struct {
	book                                      scale.Book
	bridge, proof, trip, change, minute, most int
	drift                                     scale.Drift
	pairs                                     []scale.Pair
	heavy                                     bool
}

// ordinary is a question that every function answers, but for Clash, which asks for proofs that cannot all be right.
func ordinary() question {
	return question{
		book: examples(1), proof: 2, minute: 70, most: 1, drift: drift(4, 51, -1, 95, 7), pairs: []scale.Pair{{A: 1, B: 2}}, heavy: true,
	}
}

// fault spoils a question, so that it has an error.
type fault struct {
	spoil func(q *question)
	e     api.Errno
}

// faults puts those of a book before those of the rest of a question.
func faults(rest ...fault) []fault {
	return append([]fault{
		{func(q *question) { q.book.Proofs = append(q.book.Proofs, make([]scale.Proof, 10)...) }, api.ErrCount},
		{func(q *question) { q.book.Trips = append(q.book.Trips, make([]scale.Trip, 4)...) }, api.ErrCount},
		{func(q *question) { q.book.Errors[1] = 51 }, api.ErrRange},
		{func(q *question) { q.book.Proofs[1].Known = -1 }, api.ErrRange},
		{func(q *question) { q.book.Trips[0].Mud = 201 }, api.ErrRange},
		{func(q *question) { q.book.Proofs[0].Bridge = 2 }, api.ErrNoSuch},
		{func(q *question) { q.book.Trips[0].Out.Bridge = -1 }, api.ErrNoSuch},
		{func(q *question) { q.book.Proofs[2].Minute = 50 }, api.ErrTwice},
		{func(q *question) { q.book.Trips[0].In.Minute = 31 }, api.ErrOrder},
	}, rest...)
}

// badClash adds a proof with an empty span, of the bridge that the question is about, or of bridge 1.
func badClash(q *question) {
	q.book.Proofs = append(q.book.Proofs, scale.Proof{Bridge: min(max(q.bridge, 0), 1), Minute: 77, Reads: 53})
}
func otherClash(q *question) {
	q.book.Proofs = append(q.book.Proofs, scale.Proof{Bridge: 1, Minute: 78, Reads: 53})
}
func badProof(q *question)  { q.proof = 3 }
func badBridge(q *question) { q.bridge = 2 }
func badTrip(q *question)   { q.trip = 1 }
func badMinute(q *question) { q.minute = 10001 }
func badMost(q *question)   { q.most = 5 }
func badLong(q *question)   { q.drift.Changes = append(q.drift.Changes, make([]scale.Change, 9)...) }
func badFirst(q *question)  { q.drift.First = -51 }
func badValue(q *question)  { q.drift.Changes[1].Value = 51 }
func badOrder(q *question)  { q.drift.Changes[0].Minute = 96 }
func badIdle(q *question)   { q.drift.Changes[0].Value = q.drift.First }
func badPair(q *question)   { q.pairs[0].B = 3 }
func badPairs(q *question)  { q.pairs = append(q.pairs, make([]scale.Pair, 10)...) }

// drifts are the errors of a drift.
func drifts() []fault {
	return []fault{{badLong, api.ErrCount}, {badFirst, api.ErrRange}, {badValue, api.ErrRange}, {badOrder, api.ErrOrder}, {badIdle, api.ErrWrong}}
}

// call is a function of the package: whether all its results but the error are zero, and the error.
type call struct {
	name   string
	faults []fault
	ask    func(q question) (bool, api.Errno)
}

// proofCalls are the functions that ask about proofs and drifts.
func proofCalls() []call {
	clash := faults(fault{badBridge, api.ErrNoSuch}, fault{badClash, api.ErrClash})
	return []call{
		{"Check", faults(), func(q question) (bool, api.Errno) { return true, scale.Check(q.book) }},
		{"Span", faults(fault{badProof, api.ErrNoSuch}, fault{func(q *question) { q.book.Proofs[2].Reads = 1053 }, api.ErrNone}), func(q question) (bool, api.Errno) {
			s, e := scale.Span(q.book, q.proof)
			return s == api.Span{}, e
		}},
		{"Value", append(drifts(), fault{badMinute, api.ErrRange}), func(q question) (bool, api.Errno) {
			n, e := scale.Value(q.drift, q.minute)
			return n == 0, e
		}},
		{"Fits", faults(append([]fault{{badBridge, api.ErrNoSuch}}, drifts()...)...), func(q question) (bool, api.Errno) {
			is, e := scale.Fits(q.book, q.bridge, q.drift)
			return !is, e
		}},
		{"Fewest", clash, func(q question) (bool, api.Errno) {
			n, e := scale.Fewest(q.book, q.bridge)
			return n == 0, e
		}},
		{"Find", clash, func(q question) (bool, api.Errno) {
			d, e := scale.Find(q.book, q.bridge)
			return d.First == 0 && d.Changes == nil, e
		}},
		{"Apart", clash, func(q question) (bool, api.Errno) {
			l, e := scale.Apart(q.book, q.bridge)
			return l == nil, e
		}},
		{"Proves", faults(fault{badBridge, api.ErrNoSuch}, fault{badPair, api.ErrNoSuch}, fault{badPairs, api.ErrCount}), func(q question) (bool, api.Errno) {
			is, e := scale.Proves(q.book, q.bridge, q.pairs)
			return !is, e
		}},
		{"When", append(clash[:len(clash):len(clash)], fault{func(q *question) { q.change = 1 }, api.ErrNone}), func(q question) (bool, api.Errno) {
			s, e := scale.When(q.book, q.bridge, q.change)
			return s == api.Span{}, e
		}},
	}
}

// limitedCalls are the functions that ask about drifts with at most so many changes.
func limitedCalls() []call {
	bridge := faults(fault{badBridge, api.ErrNoSuch}, fault{badMost, api.ErrRange})
	trip := faults(fault{badTrip, api.ErrNoSuch}, fault{badMost, api.ErrRange}, fault{badClash, api.ErrClash}, fault{otherClash, api.ErrClash})
	all := faults(fault{badMost, api.ErrRange}, fault{badClash, api.ErrClash}, fault{otherClash, api.ErrClash})
	return []call{
		{"At", append(bridge[:len(bridge):len(bridge)], fault{badMinute, api.ErrRange}, fault{badClash, api.ErrClash}), func(q question) (bool, api.Errno) {
			s, e := scale.At(q.book, q.bridge, q.minute, q.most)
			return s == api.Span{}, e
		}},
		{"Clash", append(bridge[:len(bridge):len(bridge)], fault{func(q *question) {}, api.ErrNone}), func(q question) (bool, api.Errno) {
			l, e := scale.Clash(q.book, q.bridge, q.most)
			return l == nil, e
		}},
		{"Wrong", bridge, func(q question) (bool, api.Errno) {
			l, e := scale.Wrong(q.book, q.bridge, q.most)
			return l == nil, e
		}},
		{"Net", trip, func(q question) (bool, api.Errno) {
			s, e := scale.Net(q.book, q.trip, q.most)
			return s == api.Span{}, e
		}},
		{"Total", all, func(q question) (bool, api.Errno) {
			s, e := scale.Total(q.book, q.most)
			return s == api.Span{}, e
		}},
		{"Drifts", all, func(q question) (bool, api.Errno) {
			l, e := scale.Drifts(q.book, q.most, q.heavy)
			return l == nil, e
		}},
		{"Doubtful", all, func(q question) (bool, api.Errno) {
			l, e := scale.Doubtful(q.book, q.most)
			return l == nil, e
		}},
		{"Again", trip, func(q question) (bool, api.Errno) {
			in, n, e := scale.Again(q.book, q.trip, q.most)
			return !in && n == 0, e
		}},
	}
}

// TestErrorsInOrder spoils each question by each fault alone, by it and each one that is named behind it, and by it and all of these: the first one is told, with nothing else.
func TestErrorsInOrder(t *testing.T) {
	for _, c := range append(proofCalls(), limitedCalls()...) {
		if _, e := c.ask(ordinary()); e != api.OK && c.name != "Clash" {
			t.Error(c.name, "of an ordinary question:", e)
		}
		for i, first := range c.faults {
			try := func(faults ...fault) {
				q := ordinary()
				for _, f := range faults {
					f.spoil(&q)
				}
				if zero, e := c.ask(q); e != first.e || !zero {
					t.Error(c.name, "fault", i, "of", len(faults), "error", e, "zero", zero)
				}
			}
			try(first)
			for _, other := range c.faults[i+1:] {
				try(other, first)
			}
			all := slices.Concat(c.faults[i:])
			slices.Reverse(all)
			try(all...)
		}
	}
}

// TestQuestionsAtTheirLimits asks with each number at its limits, and one beyond.
func TestQuestionsAtTheirLimits(t *testing.T) {
	for _, x := range []struct {
		name   string
		lo, hi int
		e      api.Errno
		set    func(q *question, n int)
		calls  []string
	}{
		{"proof", 0, 2, api.ErrNoSuch, func(q *question, n int) { q.proof = n }, []string{"Span"}},
		{"bridge", 0, 1, api.ErrNoSuch, func(q *question, n int) { q.bridge, q.pairs = n, nil }, []string{"Fits", "Fewest", "Find", "Apart", "Proves", "At", "Wrong"}},
		{"trip", 0, 0, api.ErrNoSuch, func(q *question, n int) { q.trip = n }, []string{"Net", "Again"}},
		{"change", 0, 0, api.ErrNone, func(q *question, n int) { q.change = n }, []string{"When"}},
		{"minute", 0, scale.MaxMinute, api.ErrRange, func(q *question, n int) { q.minute = n }, []string{"Value", "At"}},
		{"most", 1, scale.MaxChanges, api.ErrRange, func(q *question, n int) { q.most = n }, []string{"At", "Net", "Total", "Drifts", "Doubtful", "Again"}},
		{"most of Wrong", 0, scale.MaxChanges, api.ErrRange, func(q *question, n int) { q.most = n }, []string{"Wrong"}},
		{"pair", 0, 2, api.ErrNoSuch, func(q *question, n int) { q.pairs[0] = scale.Pair{A: n, B: 2 - n} }, []string{"Proves"}},
		{"pairs", 0, scale.MaxProofs, api.ErrCount, func(q *question, n int) { q.pairs = make([]scale.Pair, max(n, 0)) }, []string{"Proves"}},
	} {
		for _, n := range []int{x.lo - 1, x.lo, x.hi, x.hi + 1, math.MinInt, math.MaxInt} {
			if x.name == "pairs" && (n < 0 || n > 100) {
				continue // there are no such lists
			}
			q := ordinary()
			x.set(&q, n)
			want := api.OK
			switch {
			case x.name == "most" && n == 0:
				want = api.ErrClash
			case n < x.lo || n > x.hi:
				want = x.e
			}
			for _, c := range append(proofCalls(), limitedCalls()...) {
				if _, e := c.ask(q); slices.Contains(x.calls, c.name) && e != want {
					t.Error(x.name, n, c.name, e, want)
				}
			}
		}
	}
}
