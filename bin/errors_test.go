package bin_test

import (
	"slices"
	"testing"

	"laystall/api"
	"laystall/bin"
)

// question has all arguments that a function of the package can have.
type question struct {
	row                   bin.Row
	from, to, bin, pounds int
	kind                  bin.Kind
	most                  bool
	contents, chances     []int
	walk                  []bin.Fact
}

// ordinary is a question that every function answers, but for those that ask for a row that clashes.
func ordinary() question {
	return question{
		row: examples(first()), to: 1, bin: 2, pounds: 30, kind: bin.Market, most: true,
		contents: []int{40, 20, 10}, chances: []int{3, 1, 0}, walk: []bin.Fact{ofBin(0, true), ofBin(1, true)},
	}
}

// fault spoils a question, so that it has an error.
type fault struct {
	spoil func(q *question)
	e     api.Errno
}

// faults puts those of a row before those of the rest of a question.
func faults(rest ...fault) []fault {
	return append([]fault{
		{func(q *question) { q.row.Weighings = append(q.row.Weighings, make([]bin.Weighing, 10)...) }, api.ErrCount},
		{func(q *question) { q.row.Bins[1].Since = 4 }, api.ErrRange},
		{func(q *question) { q.row.Weighings[0].Error = 101 }, api.ErrRange},
		{func(q *question) { q.row.Days[1] = bin.Kinds }, api.ErrNoSuch},
		{func(q *question) { q.row.Weighings[0].To = 3 }, api.ErrNoSuch},
		{func(q *question) { q.row.Weighings[0].From = 2 }, api.ErrOrder},
	}, rest...)
}

func badFrom(q *question)  { q.from = -1 }
func badTo(q *question)    { q.to = 3 }
func badOrder(q *question) { q.from = q.to + 1 }
func badBin(q *question)   { q.bin = 3 }
func badClash(q *question) { q.row.Weighings = append(q.row.Weighings, second()) }
func badFacts(q *question) { q.walk = append(q.walk, make([]bin.Fact, 19)...) }
func badFact(q *question)  { q.walk[0] = ofWeighing(len(q.row.Weighings), true) }
func badIndex(q *question) { q.walk[1] = ofBin(3, false) }
func keep(q *question)     {}

// call is a function of the package: whether all its results but the error are zero, and the error.
type call struct {
	name   string
	faults []fault
	ask    func(q question) (bool, api.Errno)
}

// rowCalls are the functions that ask about a row alone.
func rowCalls() []call {
	clash := faults(fault{badClash, api.ErrClash})
	return []call{
		{"Check", faults(), func(q question) (bool, api.Errno) { return true, bin.Check(q.row) }},
		{"Spans", faults(), func(q question) (bool, api.Errno) {
			l, e := bin.Spans(q.row)
			return l == nil, e
		}},
		{"Fits", faults(fault{func(q *question) { q.contents = q.contents[:2] }, api.ErrCount}), func(q question) (bool, api.Errno) {
			is, e := bin.Fits(q.row, q.contents)
			return !is, e
		}},
		{"Truth", clash, func(q question) (bool, api.Errno) {
			l, e := bin.Truth(q.row)
			return l == nil, e
		}},
		{"Holds", clash, func(q question) (bool, api.Errno) {
			l, e := bin.Holds(q.row)
			return l == nil, e
		}},
		{"Next", clash, func(q question) (bool, api.Errno) {
			from, to, width, e := bin.Next(q.row)
			return from == 0 && to == 0 && width == 0, e
		}},
		{"Fewest", faults(), func(q question) (bool, api.Errno) {
			l, e := bin.Fewest(q.row)
			return l == nil, e
		}},
		{"Round", faults(fault{keep, api.ErrNone}), func(q question) (bool, api.Errno) {
			l, e := bin.Round(q.row)
			return l == nil, e
		}},
		{"Clash", faults(fault{keep, api.ErrNone}), func(q question) (bool, api.Errno) {
			l, e := bin.Clash(q.row)
			return l == nil, e
		}},
	}
}

// binCalls are the functions that ask about bins from and to.
func binCalls() []call {
	bins := []fault{{badOrder, api.ErrOrder}, {badClash, api.ErrClash}}
	bins = append([]fault{{badFrom, api.ErrNoSuch}, {badTo, api.ErrNoSuch}}, bins...)
	return []call{
		{"Sum", faults(bins...), func(q question) (bool, api.Errno) {
			s, e := bin.Sum(q.row, q.from, q.to)
			return s == api.Span{}, e
		}},
		{"Reach", faults(bins...), func(q question) (bool, api.Errno) {
			l, e := bin.Reach(q.row, q.from, q.to, q.most)
			return l == nil, e
		}},
		{"Why", faults(bins...), func(q question) (bool, api.Errno) {
			l, e := bin.Why(q.row, q.from, q.to, q.most)
			return l == nil, e
		}},
		{"Settles", faults(bins...), func(q question) (bool, api.Errno) {
			n, e := bin.Settles(q.row, q.from, q.to)
			return n == 0, e
		}},
	}
}

// restCalls are the functions that ask about walks and days.
func restCalls() []call {
	return []call{
		{"Shows", faults(
			fault{badFrom, api.ErrNoSuch}, fault{badTo, api.ErrNoSuch}, fault{badOrder, api.ErrOrder},
			fault{badFacts, api.ErrCount}, fault{badFact, api.ErrNoSuch}, fault{badIndex, api.ErrNoSuch},
			fault{func(q *question) { q.walk[0] = ofBin(1, true) }, api.ErrWrong},
		), func(q question) (bool, api.Errno) {
			n, e := bin.Shows(q.row, q.from, q.to, q.most, q.walk)
			return n == 0, e
		}},
		{"Contradicts", faults(
			fault{badFacts, api.ErrCount}, fault{badFact, api.ErrNoSuch}, fault{badIndex, api.ErrNoSuch},
		), func(q question) (bool, api.Errno) {
			is, e := bin.Contradicts(q.row, q.walk)
			return !is, e
		}},
		{"Expect", faults(
			fault{badBin, api.ErrNoSuch}, fault{func(q *question) { q.chances = q.chances[:len(q.chances)-1] }, api.ErrCount},
			fault{func(q *question) { q.chances[1] = -1 }, api.ErrRange}, fault{func(q *question) { q.chances[0] = 101 }, api.ErrRange},
			fault{func(q *question) { clear(q.chances) }, api.ErrNone},
		), func(q question) (bool, api.Errno) {
			lo, hi, e := bin.Expect(q.row, q.bin, q.chances)
			return lo == api.Ratio{} && hi == api.Ratio{}, e
		}},
		{"Until", faults(
			fault{badBin, api.ErrNoSuch}, fault{func(q *question) { q.kind = bin.Kinds }, api.ErrNoSuch},
			fault{func(q *question) { q.pounds = 3001 }, api.ErrRange}, fault{badClash, api.ErrClash},
		), func(q question) (bool, api.Errno) {
			s, e := bin.Until(q.row, q.bin, q.kind, q.pounds)
			return s == api.Span{}, e
		}},
	}
}

// TestErrorsInOrder spoils each question by each fault alone, by it and each one that is named behind it, and by it and all of these: the first one is told, with nothing else.
func TestErrorsInOrder(t *testing.T) {
	for _, c := range append(append(rowCalls(), binCalls()...), restCalls()...) {
		if _, e := c.ask(ordinary()); e != api.OK && c.name != "Round" && c.name != "Clash" {
			t.Error(c.name, "of an ordinary question:", e)
		}
		for i, first := range c.faults {
			later := c.faults[i+1:]
			try := func(faults ...fault) {
				q := ordinary()
				for _, f := range faults {
					f.spoil(&q)
				}
				if zero, e := c.ask(q); e != first.e || !zero {
					t.Error(c.name, "fault", i, "of", len(faults), "error", e, "zero", zero)
				}
			}
			try(first)
			for _, other := range later {
				try(other, first)
			}
			all := slices.Concat(c.faults[i:])
			slices.Reverse(all)
			try(all...)
		}
	}
}

// TestBinsAndDaysAtTheirLimits asks with each number at its limits, and one beyond.
func TestBinsAndDaysAtTheirLimits(t *testing.T) {
	for _, x := range []struct {
		name   string
		lo, hi int
		e      api.Errno
		set    func(q *question, n int)
	}{
		{"from", 0, 2, api.ErrNoSuch, func(q *question, n int) { q.from, q.to = n, 2 }},
		{"to", 0, 2, api.ErrNoSuch, func(q *question, n int) { q.to = n }},
		{"bin", 0, 2, api.ErrNoSuch, func(q *question, n int) { q.bin = n }},
		{"kind", 0, 2, api.ErrNoSuch, func(q *question, n int) { q.kind = bin.Kind(n) }},
		{"most", 0, bin.MaxPounds, api.ErrRange, func(q *question, n int) { q.pounds = n }},
		{"chance", 0, bin.MaxChance, api.ErrRange, func(q *question, n int) { q.chances[2] = n }},
		{"chances", 3, 3, api.ErrCount, func(q *question, n int) { q.chances = make([]int, n); q.chances[0] = 1 }},
		{"contents", 3, 3, api.ErrCount, func(q *question, n int) { q.contents = make([]int, n) }},
	} {
		for _, n := range []int{x.lo - 1, x.lo, x.hi, x.hi + 1} {
			q := ordinary()
			x.set(&q, n)
			want := api.OK
			if n < x.lo || n > x.hi {
				want = x.e
			}
			_, e1 := bin.Sum(q.row, q.from, q.to)
			_, _, e2 := bin.Expect(q.row, q.bin, q.chances)
			_, e3 := bin.Until(q.row, q.bin, q.kind, q.pounds)
			_, e4 := bin.Fits(q.row, q.contents)
			if e := max(e1, e2, e3, e4); e != want {
				t.Error(x.name, n, e)
			}
		}
	}
}

// TestFactsAtTheirLimits: 20 facts are asked, 21 are not; each fact has the index of a bin or a weighing.
func TestFactsAtTheirLimits(t *testing.T) {
	var walk []bin.Fact
	for range 10 {
		walk = append(walk, ofBin(0, true), ofBin(0, false))
	}
	if is, e := bin.Contradicts(examples(first()), walk); is || e != api.OK {
		t.Error(is, e)
	}
	if n, e := bin.Shows(examples(first()), 0, 0, true, walk[:19]); n != 9*30+60 || e != api.OK {
		t.Error(n, e)
	}
	if n, e := bin.Shows(examples(first()), 0, 0, true, append(walk, walk[0])); n != 0 || e != api.ErrCount {
		t.Error(n, e)
	}
	for _, x := range []struct {
		f bin.Fact
		e api.Errno
	}{
		{ofBin(-1, true), api.ErrNoSuch}, {ofBin(0, true), api.OK}, {ofBin(2, false), api.OK}, {ofBin(3, false), api.ErrNoSuch},
		{ofWeighing(-1, true), api.ErrNoSuch}, {ofWeighing(0, true), api.OK}, {ofWeighing(1, false), api.OK}, {ofWeighing(2, true), api.ErrNoSuch},
	} {
		if _, e := bin.Contradicts(examples(first(), second()), []bin.Fact{ofBin(0, true), x.f}); e != x.e {
			t.Error(x.f, e)
		}
	}
}
