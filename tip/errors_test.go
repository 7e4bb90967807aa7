package tip_test

import (
	"reflect"
	"slices"
	"testing"

	"laystall/api"
	"laystall/tip"
)

// question has all arguments that a function of the package can have.
type question struct {
	tip                  tip.Tip
	layer                tip.Layer
	loads                []tip.Load
	settlings            [][]int
	percents             []int
	strips, layers       []int
	age, strip, day, gas int
	most                 bool
}

// ordinary is a question that every function answers, but for Over: all lines are kept.
func ordinary() question {
	return question{
		tip: examples(), layer: tip.Layer{Strip: 1, Day: 2, Pounds: 100},
		loads: []tip.Load{{Day: 2, Pounds: 900}, {Day: 3, Pounds: 1000}}, strips: list(1, 1),
		settlings: [][]int{list(100, 85, 80, 55), nil, list(100, 90, 90, 70)}, percents: list(100, 80, 80, 60),
		layers: list(2, 0), age: 1, strip: 1, day: 3, gas: 61, most: true,
	}
}

// copied returns a question that shares no memory with another one.
func copied(q question) question {
	q.tip, q.loads, q.settlings = copyOf(q.tip), slices.Clone(q.loads), slices.Clone(q.settlings)
	for _, l := range []*[]int{&q.percents, &q.strips, &q.layers} {
		*l = slices.Clone(*l)
	}
	for i := range q.settlings {
		q.settlings[i] = slices.Clone(q.settlings[i])
	}
	return q
}

// fault spoils a question, so that it has an error.
type fault struct {
	spoil func(q *question)
	e     api.Errno
}

// faults puts those of a tip before those of the rest of a question.
func faults(rest ...fault) []fault {
	return append([]fault{
		{func(q *question) { q.tip.Strips = append(q.tip.Strips, make([]tip.Strip, 3)...) }, api.ErrCount},
		{func(q *question) { q.tip.Layers = append(q.tip.Layers, make([]tip.Layer, 10)...) }, api.ErrCount},
		{func(q *question) { q.tip.Settles = append(q.tip.Settles, make([]api.Span, 5)...) }, api.ErrCount},
		{func(q *question) { q.tip.Gives = nil }, api.ErrCount},
		{func(q *question) { q.tip.Strips[0].Area = 0 }, api.ErrRange},
		{func(q *question) { q.tip.Strips[1].Base = 1000 }, api.ErrRange},
		{func(q *question) { q.tip.Strips[0].Line = -1 }, api.ErrRange},
		{func(q *question) { q.tip.Soil = 10 }, api.ErrRange},
		{func(q *question) { q.tip.Open = -1 }, api.ErrRange},
		{func(q *question) { q.tip.Layers[2].Day = 61 }, api.ErrRange},
		{func(q *question) { q.tip.Layers[0].Pounds = 2001 }, api.ErrRange},
		{func(q *question) { q.tip.Layers[1] = tip.Layer{Day: 1, Pounds: 1, Cover: true} }, api.ErrRange},
		{func(q *question) { q.tip.Settles[3].Hi = 101 }, api.ErrRange},
		{func(q *question) { q.tip.Gives = []api.Span{span(3, 2)} }, api.ErrRange},
		{func(q *question) { q.tip.Layers[1].Strip = 2 }, api.ErrNoSuch},
		{func(q *question) { q.tip.Layers[0].Day = 2 }, api.ErrOrder},
		{func(q *question) { q.tip.Settles[1], q.tip.Settles[2] = span(40, 45), span(50, 60) }, api.ErrClash},
	}, rest...)
}

// ofPlace puts the faults of a tip, a strip and a day before those of the rest of a question.
func ofPlace(rest ...fault) []fault {
	return faults(append([]fault{
		{func(q *question) { q.strip = 2 }, api.ErrNoSuch},
		{func(q *question) { q.day = 61 }, api.ErrRange},
	}, rest...)...)
}

// ofLoads puts the faults of a tip and of loads before those of the rest of a question.
func ofLoads(rest ...fault) []fault {
	return faults(append([]fault{
		{func(q *question) { q.loads = append(q.loads, make([]tip.Load, 5)...) }, api.ErrCount},
		{func(q *question) { q.loads[1].Day = 61 }, api.ErrRange},
		{func(q *question) { q.loads[1].Pounds = 0 }, api.ErrRange},
		{func(q *question) { q.loads[0].Day = 4 }, api.ErrOrder},
	}, rest...)...)
}

// The faults of the other arguments.
func lowLine(e api.Errno) fault {
	return fault{func(q *question) { q.tip.Strips[1].Line = 18 }, e}
}
func highLine() fault {
	return fault{func(q *question) { q.tip.Strips[0].Line = 21 }, api.ErrNone}
}
func heavy() fault {
	return fault{func(q *question) { q.loads[1].Pounds = 1500 }, api.ErrNone}
}
func light() fault {
	return fault{func(q *question) { q.loads[0].Pounds, q.loads[1].Pounds = 1, 1 }, api.ErrNone}
}

// lowered returns a tip in which the line of the first strip is not kept, if there is nothing else.
func lowered(q question) tip.Tip {
	t := copyOf(q.tip)
	if len(t.Strips) > 0 && t.Strips[0].Line == 30 {
		t.Strips[0].Line = 20
	}
	return t
}

// call is a function of the package: whether all its results but the error are zero, and the error.
type call struct {
	name   string
	faults []fault
	ask    func(q question) (bool, api.Errno)
}

// tipCalls are the functions that ask about tips, settlings, levels and rooms.
func tipCalls() []call {
	return []call{
		{"Check", faults(), func(q question) (bool, api.Errno) { return true, tip.Check(q.tip) }},
		{"Settling", faults(fault{func(q *question) { q.percents = q.percents[1:] }, api.ErrCount}), func(q question) (bool, api.Errno) {
			is, e := tip.Settling(q.tip, q.percents)
			return !is, e
		}},
		{"Left", faults(fault{func(q *question) { q.age = 61 }, api.ErrRange}), func(q question) (bool, api.Errno) {
			s, e := tip.Left(q.tip, q.age)
			return s == empty(), e
		}},
		{"With", ofPlace(
			fault{func(q *question) { q.settlings = append(q.settlings, nil) }, api.ErrCount},
			fault{func(q *question) { q.settlings[1] = q.settlings[0] }, api.ErrWrong},
			fault{func(q *question) { q.settlings[2] = list(100, 80, 81, 60) }, api.ErrWrong},
		), func(q question) (bool, api.Errno) {
			n, e := tip.With(q.tip, q.settlings, q.strip, q.day)
			return n == 0, e
		}},
		{"Level", ofPlace(), func(q question) (bool, api.Errno) {
			s, e := tip.Level(q.tip, q.strip, q.day)
			return s == empty(), e
		}},
		{"Ends", ofPlace(), func(q question) (bool, api.Errno) {
			l, e := tip.Ends(q.tip, q.strip, q.day, q.most)
			return l == nil, e
		}},
		{"Over", faults(highLine()), func(q question) (bool, api.Errno) {
			strip, day, e := tip.Over(lowered(q))
			return strip == 0 && day == 0, e
		}},
		{"Need", faults(), func(q question) (bool, api.Errno) {
			l, e := tip.Need(q.tip)
			return l == nil, e
		}},
		{"Lay", faults(
			fault{func(q *question) { q.tip.Layers = slices.Repeat(q.tip.Layers[:1], 12) }, api.ErrCount},
			fault{func(q *question) { q.layer.Pounds = 0 }, api.ErrRange},
			fault{func(q *question) { q.layer.Day = 61 }, api.ErrRange},
			fault{func(q *question) { q.layer.Strip = 2 }, api.ErrNoSuch},
			fault{func(q *question) { q.layer.Day = 1 }, api.ErrOrder},
		), func(q question) (bool, api.Errno) {
			laid, e := tip.Lay(q.tip, q.layer)
			return reflect.DeepEqual(laid, tip.Tip{}), e
		}},
		{"Room", ofPlace(lowLine(api.ErrNone)), func(q question) (bool, api.Errno) {
			n, e := tip.Room(q.tip, q.strip, q.day)
			return n == 0, e
		}},
	}
}

// loadCalls are the functions that ask about loads, covers and gas.
func loadCalls() []call {
	return []call{
		{"Fill without room", ofLoads(heavy()), func(q question) (bool, api.Errno) {
			l, e := tip.Fill(q.tip, q.loads)
			return l == nil, e
		}},
		{"Fill", ofLoads(lowLine(api.ErrNone)), func(q question) (bool, api.Errno) {
			l, e := tip.Fill(q.tip, q.loads)
			return l == nil, e
		}},
		{"Most", ofLoads(lowLine(api.ErrNone)), func(q question) (bool, api.Errno) {
			n, e := tip.Most(q.tip, q.loads)
			return n == 0, e
		}},
		{"Spoils", ofLoads(
			fault{func(q *question) { q.strips = append(q.strips, 2) }, api.ErrCount},
			fault{func(q *question) { q.strips[1] = 2 }, api.ErrNoSuch},
			lowLine(api.ErrState),
			light(),
		), func(q question) (bool, api.Errno) {
			load, day, e := tip.Spoils(q.tip, q.loads, q.strips)
			return load == 0 && day == 0, e
		}},
		{"Late", faults(), func(q question) (bool, api.Errno) {
			l, e := tip.Late(q.tip)
			return l == nil, e
		}},
		{"Covers", faults(), func(q question) (bool, api.Errno) {
			l, e := tip.Covers(q.tip)
			return l == nil, e
		}},
		{"Apart", faults(), func(q question) (bool, api.Errno) {
			l, e := tip.Apart(q.tip)
			return l == nil, e
		}},
		{"ApartShows", faults(
			fault{func(q *question) { q.layers = append(q.layers, 15) }, api.ErrNoSuch},
			fault{func(q *question) { q.layers[1] = 1 }, api.ErrWrong},
		), func(q question) (bool, api.Errno) {
			n, e := tip.ApartShows(q.tip, q.layers)
			return n == 0, e
		}},
		{"Gas", faults(fault{func(q *question) { q.day = -1 }, api.ErrRange}), func(q question) (bool, api.Errno) {
			s, e := tip.Gas(q.tip, q.day)
			return s == empty(), e
		}},
		{"Quiet", faults(
			fault{func(q *question) { q.gas = -1 }, api.ErrRange},
			fault{func(q *question) { q.gas = 60 }, api.ErrNone},
		), func(q question) (bool, api.Errno) {
			day, e := tip.Quiet(q.tip, q.gas)
			return day == 0, e
		}},
	}
}

// TestErrorsInOrder spoils each question by each fault alone, by it and each one that is named behind it, and by it and all of these: the first one is told, with nothing else.
func TestErrorsInOrder(t *testing.T) {
	for _, c := range append(tipCalls(), loadCalls()...) {
		if zero, e := c.ask(ordinary()); e != api.OK || zero && c.name != "Check" {
			t.Error(c.name, "of an ordinary question:", zero, e)
		}
		for i, first := range c.faults {
			try := func(faults ...fault) {
				q := ordinary()
				for _, f := range faults {
					f.spoil(&q)
				}
				if zero, e := c.ask(q); e != first.e || !zero {
					t.Error(c.name, "fault", i, "of", len(faults), "error", e, "zero", zero)
				}
			}
			try(first)
			for _, other := range c.faults[i+1:] {
				try(other, first)
			}
			all := slices.Clone(c.faults[i:])
			slices.Reverse(all)
			try(all...)
		}
	}
}
