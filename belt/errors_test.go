package belt_test

import (
	"math"
	"slices"
	"testing"

	"laystall/api"
	"laystall/belt"
)

// question has all arguments that a function of the package can have.
type question struct {
	belt       belt.Belt
	hand, tray int
	left       belt.Tray
	set        []belt.Material
	sharing    []belt.Tray
}

// ordinary is a question that every function answers, but for Fewest, which asks for trays that can be kept clean.
func ordinary() question {
	b := examples()
	b.Trays = append(b.Trays, belt.Tray{6, 6})
	b.Hands[0].Tires = 4
	return question{belt: b, set: set(belt.Paper, belt.Rags, belt.Glass), sharing: []belt.Tray{{4, 4}, {1, 0, 2}}}
}

// fault spoils a question, so that it has an error.
type fault struct {
	spoil func(q *question)
	e     api.Errno
}

// faults puts those of a belt before those of the rest of a question.
func faults(rest ...fault) []fault {
	return append([]fault{
		{func(q *question) { q.belt.Trays = append(q.belt.Trays, make([]belt.Tray, 6)...) }, api.ErrCount},
		{func(q *question) { q.belt.Hands = append(q.belt.Hands, make([]belt.Hand, 4)...) }, api.ErrCount},
		{func(q *question) { q.belt.Trays[2][4] = 61 }, api.ErrRange},
		{func(q *question) { q.belt.Hands[1].Strength = -1 }, api.ErrRange},
		{func(q *question) { q.belt.Hands[0].Tires = 11 }, api.ErrRange},
		{func(q *question) { q.belt.Hands[1].Slips = 101 }, api.ErrRange},
		{func(q *question) { q.belt.Hands[1].Rests = list(0, 3) }, api.ErrNoSuch},
		{func(q *question) { q.belt.Hands[0].Rests = list(1, 0) }, api.ErrOrder},
	}, rest...)
}

// The faults of the other arguments, in the order in which functions ask for them.
func badHand() fault { return fault{func(q *question) { q.hand = 2 }, api.ErrNoSuch} }
func badTray() fault { return fault{func(q *question) { q.tray = 3 }, api.ErrNoSuch} }
func badLeft() fault { return fault{func(q *question) { q.left[4] = 61 }, api.ErrRange} }
func badSet() fault  { return fault{func(q *question) { q.set[2] = 5 }, api.ErrNoSuch} }
func badOrder() fault {
	return fault{func(q *question) { q.set[0], q.set[1] = q.set[1], q.set[0] }, api.ErrOrder}
}
func badCount() fault {
	return fault{func(q *question) { q.sharing = append(q.sharing, belt.Tray{}) }, api.ErrCount}
}
func badSharing() fault { return fault{func(q *question) { q.sharing[0][0]++ }, api.ErrWrong} }
func badHold() fault    { return fault{func(q *question) { q.left[0] = 1 }, api.ErrWrong} }
func allLeft() fault {
	return fault{func(q *question) { q.left = belt.Tray{6, 6, q.left[2] + 2, q.left[3], q.left[4]} }, api.ErrNone}
}
func tireless() fault { return fault{func(q *question) { q.belt.Hands[0].Tires %= 2 }, api.ErrNone} }
func asItIs() fault   { return fault{func(q *question) {}, api.ErrNone} }

// call is a function of the package: whether all its results but the error are zero, and the error.
type call struct {
	name   string
	faults []fault
	ask    func(q question) (bool, api.Errno)
}

// beltCalls are the functions that ask about all of a belt, and about hands.
func beltCalls() []call {
	return []call{
		{"Check", faults(), func(q question) (bool, api.Errno) { return true, belt.Check(q.belt) }},
		{"Force", faults(badHand(), badTray()), func(q question) (bool, api.Errno) {
			n, e := belt.Force(q.belt, q.hand, q.tray)
			return n == 0, e
		}},
		{"Run", faults(), func(q question) (bool, api.Errno) {
			l, e := belt.Run(q.belt)
			return l == nil, e
		}},
		{"Heaps", faults(), func(q question) (bool, api.Errno) {
			l, e := belt.Heaps(q.belt)
			return l == nil, e
		}},
		{"Wrong", faults(), func(q question) (bool, api.Errno) {
			l, e := belt.Wrong(q.belt)
			return l == nil, e
		}},
		{"Most", faults(), func(q question) (bool, api.Errno) {
			l, n, e := belt.Most(q.belt)
			return l == nil && n == 0, e
		}},
		{"Loss", faults(badHand()), func(q question) (bool, api.Errno) {
			n, e := belt.Loss(q.belt, q.hand)
			return n == 0, e
		}},
		{"Rest", faults(badHand(), tireless()), func(q question) (bool, api.Errno) {
			tray, n, e := belt.Rest(q.belt, q.hand)
			return tray == 0 && n == 0, e
		}},
		{"Line", faults(), func(q question) (bool, api.Errno) {
			l, n, e := belt.Line(q.belt)
			return l == nil && n == 0, e
		}},
	}
}

// trayCalls are the functions that ask about one tray, and about what may be left.
func trayCalls() []call {
	return []call{
		{"Share", faults(badTray()), func(q question) (bool, api.Errno) {
			l, e := belt.Share(q.belt, q.tray)
			return l == nil, e
		}},
		{"Shared", faults(badTray(), badCount(), badSharing()), func(q question) (bool, api.Errno) {
			n, e := belt.Shared(q.belt, q.tray, q.sharing)
			return n == 0, e
		}},
		{"Cut", faults(badTray()), func(q question) (bool, api.Errno) {
			l, e := belt.Cut(q.belt, q.tray)
			return l == nil, e
		}},
		{"Bounds", faults(badTray(), badSet(), badOrder()), func(q question) (bool, api.Errno) {
			n, e := belt.Bounds(q.belt, q.tray, q.set)
			return n == 0, e
		}},
		{"Clean", faults(badLeft()), func(q question) (bool, api.Errno) {
			is, e := belt.Clean(q.belt, q.left)
			return !is, e
		}},
		{"Held", faults(badLeft(), allLeft()), func(q question) (bool, api.Errno) {
			tray, l, e := belt.Held(q.belt, q.left)
			return tray == 0 && l == nil, e
		}},
		{"HeldUp", faults(badLeft(), badTray(), badSet(), badOrder(), badHold()), func(q question) (bool, api.Errno) {
			n, e := belt.HeldUp(q.belt, q.left, q.tray, q.set)
			return n == 0, e
		}},
		{"Fewest", faults(badLeft(), asItIs()), func(q question) (bool, api.Errno) {
			l, e := belt.Fewest(q.belt, q.left)
			return l == nil, e
		}},
	}
}

// TestErrorsInOrder spoils each question by each fault alone, by it and each one that is named behind it, and by it and all of these: the first one is told, with nothing else.
func TestErrorsInOrder(t *testing.T) {
	for _, c := range append(beltCalls(), trayCalls()...) {
		if _, e := c.ask(ordinary()); e != api.OK && c.name != "Fewest" {
			t.Error(c.name, "of an ordinary question:", e)
		}
		for i, first := range c.faults {
			try := func(faults ...fault) {
				q := ordinary()
				for _, f := range faults {
					f.spoil(&q)
				}
				if zero, e := c.ask(q); e != first.e || !zero {
					t.Error(c.name, "fault", i, "of", len(faults), "error", e, "zero", zero)
				}
			}
			try(first)
			for _, other := range c.faults[i+1:] {
				try(other, first)
			}
			all := slices.Clone(c.faults[i:])
			slices.Reverse(all)
			try(all...)
		}
	}
}

// TestQuestionsAtTheirLimits asks with each number at its limits, and one beyond.
func TestQuestionsAtTheirLimits(t *testing.T) {
	for _, x := range []struct {
		name  string
		hi    int
		e     api.Errno
		set   func(q *question, n int)
		calls []string
	}{
		{"hand", 1, api.ErrNoSuch, func(q *question, n int) { q.hand = n }, []string{"Force", "Loss"}},
		{"hand of Rest", 0, api.ErrNoSuch, func(q *question, n int) { q.hand = 2 * n }, []string{"Rest"}},
		{"tray", 2, api.ErrNoSuch, func(q *question, n int) { q.tray = n }, []string{"Force", "Share", "Cut", "Bounds"}},
		{"tray of HeldUp", 2, api.ErrNoSuch, func(q *question, n int) { q.tray, q.set = n, set(belt.Rags, belt.Tin); q.belt.Hands[0].Strength = 0 }, []string{"HeldUp"}},
		{"left of paper", 60, api.ErrRange, func(q *question, n int) { q.left[0] = n }, []string{"Clean", "Held"}},
		{"left of glass", 60, api.ErrRange, func(q *question, n int) { q.left[2] = n }, []string{"Clean"}},
		{"left of bone", 60, api.ErrRange, func(q *question, n int) { q.left[4] = n }, []string{"Clean", "Held", "HeldUp"}},
		{"left of all but bone", 60, api.ErrRange, func(q *question, n int) { q.left = belt.Tray{60, 60, 60, 60, n} }, []string{"Clean", "Fewest"}},
		{"material", 4, api.ErrNoSuch, func(q *question, n int) { q.set = set(belt.Material(n)) }, []string{"Bounds"}},
		{"second material", 4, api.ErrNoSuch, func(q *question, n int) {
			q.set = set(belt.Paper, belt.Material(n))
			if n == 0 {
				q.set = q.set[:1]
			}
		}, []string{"Bounds"}},
	} {
		for _, n := range []int{-1, 0, x.hi, x.hi + 1, math.MinInt, math.MaxInt} {
			q := ordinary()
			x.set(&q, n)
			want := api.OK
			if n < 0 || n > x.hi {
				want = x.e
			}
			if x.name == "hand of Rest" && (n == math.MinInt || n == math.MaxInt) {
				q.hand = n // twice these would be another number
			}
			for _, c := range append(beltCalls(), trayCalls()...) {
				if _, e := c.ask(q); slices.Contains(x.calls, c.name) && e != want {
					t.Error(x.name, n, c.name, e, want)
				}
			}
		}
	}
}
