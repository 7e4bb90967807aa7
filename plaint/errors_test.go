package plaint_test

import (
	"slices"
	"testing"

	"laystall/api"
	"laystall/plaint"
	"laystall/street"
)

// question has all arguments that a function of the package can have.
type question struct {
	c              plaint.Case
	drive          []plaint.Step
	words          []int
	word, extra    plaint.Word
	street, minute int
	served         bool
}

// ordinary is a question that every function answers. With the extra word, that the cart was at corner 1 at the minute 1, words exclude each other.
func ordinary() question {
	return question{
		c: examples(away(1, 50, 60)), drive: drive(forth(2, 0), back(1, 20)), words: list(0, 1, 2), word: passed(0, 1, 40), extra: seen(1, 1, 1),
		street: 1, minute: 30, served: true,
	}
}

// copied returns a question that shares no memory with another one.
func copied(q question) question {
	q.c, q.drive, q.words = copyOf(q.c), slices.Clone(q.drive), slices.Clone(q.words)
	return q
}

// fault spoils a question, so that it has an error.
type fault struct {
	spoil func(q *question)
	e     api.Errno
}

// faults puts those of a case before those of the rest of a question.
func faults(rest ...fault) []fault {
	return append([]fault{
		{func(q *question) { q.c.Town.Corners = 9 }, api.ErrRange},
		{func(q *question) { q.c.Town.Streets = append(q.c.Town.Streets, make([]street.Street, 14)...) }, api.ErrCount},
		{func(q *question) { q.c.Town.Streets[2].To = 8 }, api.ErrNoSuch},
		{func(q *question) { q.c.Town.Streets[0].Minutes = 31 }, api.ErrRange},
		{func(q *question) {
			q.c.Town.Streets = append(q.c.Town.Streets, slices.Repeat([]street.Street{plain(0, 1, 9)}, 6)...)
		}, api.ErrCount},
		{func(q *question) { q.c.Words = append(q.c.Words, make([]plaint.Word, 4)...) }, api.ErrCount},
		{func(q *question) { q.c.Cart.Wide = 10 }, api.ErrRange},
		{func(q *question) { q.c.Cart.Load = -1 }, api.ErrRange},
		{func(q *question) { q.c.Until = 61 }, api.ErrRange},
		{func(q *question) { q.c.Lies = 6 }, api.ErrRange},
		{func(q *question) { q.c.Words[1].Hi = 61 }, api.ErrRange},
		{func(q *question) { q.c.Words[1].Lo = 61 }, api.ErrRange},
		{func(q *question) { q.c.Words[0].Lo = 21 }, api.ErrRange},
		{func(q *question) { q.c.From = 8 }, api.ErrNoSuch},
		{func(q *question) { q.c.Words[1].Kind = 3 }, api.ErrNoSuch},
		{func(q *question) { q.c.Words[0].Place = 8 }, api.ErrNoSuch},
	}, rest...)
}

// ofDrive puts the faults of a case before those of a drive.
func ofDrive() []fault {
	return faults(
		fault{func(q *question) { q.drive = append(q.drive, make([]plaint.Step, 59)...) }, api.ErrCount},
		fault{func(q *question) { q.drive[len(q.drive)-1].Street = 16 }, api.ErrNoSuch},
		fault{func(q *question) { q.drive[0].Start = 6 }, api.ErrWrong},
	)
}

// The faults of the other arguments.
func badStreet() fault { return fault{func(q *question) { q.street = 16 }, api.ErrNoSuch} }
func clash() fault     { return fault{func(q *question) { q.c.Words[1] = q.extra }, api.ErrClash} }

// with returns the case of a question, with one word more.
func (q question) with(w plaint.Word) plaint.Case {
	return told(q.c, q.c.Lies, append(slices.Clone(q.c.Words), w)...)
}

// call is a function of the package: whether all its results but the error are zero, and the error.
type call struct {
	name   string
	faults []fault
	ask    func(q question) (bool, api.Errno)
}

// driveCalls are the functions that ask about cases and drives.
func driveCalls() []call {
	return []call{
		{"Check", faults(), func(q question) (bool, api.Errno) { return true, plaint.Check(q.c) }},
		{"More", faults(
			fault{func(q *question) { q.c.Words = append(q.c.Words, away(1, 50, 60), away(1, 50, 60), away(1, 50, 60)) }, api.ErrCount},
			fault{func(q *question) { q.word.Lo = 41 }, api.ErrRange},
			fault{func(q *question) { q.word.Kind = -1 }, api.ErrNoSuch},
		), func(q question) (bool, api.Errno) {
			c, e := plaint.More(q.c, q.word)
			return same(c, plaint.Case{}), e
		}},
		{"Truths", ofDrive(), func(q question) (bool, api.Errno) {
			l, e := plaint.Truths(q.c, q.drive)
			return l == nil, e
		}},
		{"Fits", ofDrive(), func(q question) (bool, api.Errno) {
			is, e := plaint.Fits(q.c, q.drive)
			return !is, e
		}},
		{"Serves", ofDrive(), func(q question) (bool, api.Errno) {
			l, e := plaint.Serves(q.c, q.drive)
			return l == nil, e
		}},
		{"Find", faults(clash()), func(q question) (bool, api.Errno) {
			l, e := plaint.Find(q.c)
			return l == nil, e
		}},
		{"Show", faults(badStreet(), fault{clash().spoil, api.ErrNone}), func(q question) (bool, api.Errno) {
			l, e := plaint.Show(q.c, q.street, q.served)
			return l == nil, e
		}},
	}
}

// wordCalls are the functions that ask what can be, and what cannot.
func wordCalls() []call {
	return []call{
		{"Judge", faults(badStreet(), clash()), func(q question) (bool, api.Errno) {
			v, e := plaint.Judge(q.with(away(1, 0, 60)), q.street)
			return v == 0, e
		}},
		{"Verdicts", faults(clash()), func(q question) (bool, api.Errno) {
			l, e := plaint.Verdicts(q.c)
			return l == nil, e
		}},
		{"Trust", faults(clash()), func(q question) (bool, api.Errno) {
			l, e := plaint.Trust(q.c)
			return l == nil, e
		}},
		{"Fewest", faults(), func(q question) (bool, api.Errno) {
			l, e := plaint.Fewest(q.with(q.extra))
			return l == nil, e
		}},
		{"Excludes", faults(
			fault{func(q *question) { q.words = append(q.words, 5) }, api.ErrNoSuch},
			fault{func(q *question) { q.words = append(list(1), q.words...) }, api.ErrOrder},
		), func(q question) (bool, api.Errno) {
			is, e := plaint.Excludes(q.with(q.extra), q.words)
			return !is, e
		}},
		{"Clash", faults(fault{func(q *question) { q.extra = q.c.Words[1] }, api.ErrNone}), func(q question) (bool, api.Errno) {
			l, e := plaint.Clash(q.with(q.extra))
			return l == nil, e
		}},
		{"Where", faults(fault{func(q *question) { q.minute = -1 }, api.ErrRange}, fault{func(q *question) { q.minute = 62 }, api.ErrRange}, clash()),
			func(q question) (bool, api.Errno) {
				l, e := plaint.Where(q.c, q.minute)
				return l == nil, e
			}},
		{"Asked", faults(badStreet(), clash()), func(q question) (bool, api.Errno) {
			a, b, e := plaint.Asked(q.c, q.street)
			return a == 0 && b == 0, e
		}},
		{"Ask", faults(clash(), fault{func(q *question) { q.c.Words = append(q.c.Words, away(2, 0, 40)) }, api.ErrNone}), func(q question) (bool, api.Errno) {
			x, n, e := plaint.Ask(q.c)
			return x == 0 && n == 0, e
		}},
	}
}

// TestErrorsInOrder spoils each question by each fault alone, by it and each one that is named behind it, and by it and all of these: the first one is told, with nothing else.
func TestErrorsInOrder(t *testing.T) {
	for _, c := range append(driveCalls(), wordCalls()...) {
		if zero, e := c.ask(ordinary()); e != api.OK || zero && c.name != "Check" {
			t.Error(c.name, "of an ordinary question:", zero, e)
		}
		for i, first := range c.faults {
			spoiled := func(faults ...fault) {
				q := ordinary()
				for _, f := range faults {
					f.spoil(&q)
				}
				if zero, e := c.ask(q); e != first.e || !zero {
					t.Error(c.name, "fault", i, "of", len(faults), "error", e, "zero", zero)
				}
			}
			spoiled(first)
			for _, other := range c.faults[i+1:] {
				spoiled(other, first)
			}
			all := slices.Clone(c.faults[i:])
			slices.Reverse(all)
			spoiled(all...)
		}
	}
}

// TestListsAreAskedOneErrorAfterTheOther: of several elements with errors the error that is named first decides, not the first element.
func TestListsAreAskedOneErrorAfterTheOther(t *testing.T) {
	c := examples(seen(9, 0, 0), away(0, 1, 0))
	if e := plaint.Check(c); e != api.ErrRange {
		t.Error("words:", e)
	}
	if _, e := plaint.Excludes(examples(away(0, 0, 0)), list(1, 0, 2)); e != api.ErrNoSuch {
		t.Error("words of a list:", e)
	}
	if _, e := plaint.Serves(examples(), drive(forth(0, 50), forth(3, 0))); e != api.ErrNoSuch {
		t.Error("steps:", e)
	}
	if _, e := plaint.Serves(examples(), slices.Repeat(drive(forth(3, 0)), 61)); e != api.ErrCount {
		t.Error("many steps:", e)
	}
}

// TestArgumentsAtTheirLimits asks with each argument at its limits, and one beyond.
func TestArgumentsAtTheirLimits(t *testing.T) {
	for _, x := range []struct {
		name   string
		lo, hi int
		e      api.Errno
		ask    func(q question, n int) api.Errno
	}{
		{"street of Judge", 0, 2, api.ErrNoSuch, func(q question, n int) api.Errno { _, e := plaint.Judge(q.c, n); return e }},
		{"street of Show", 0, 2, api.ErrNoSuch, func(q question, n int) api.Errno { _, e := plaint.Show(q.c, n, true); return e }},
		{"street of Asked", 0, 2, api.ErrNoSuch, func(q question, n int) api.Errno { _, _, e := plaint.Asked(q.c, n); return e }},
		{"street of a step", 0, 2, api.ErrNoSuch, func(q question, n int) api.Errno {
			q.c.From = max(n%2, 0) * 2 // street 1 does not begin at corner 0
			_, e := plaint.Fits(q.c, drive(plaint.Step{Street: n, Back: n == 1}))
			return e
		}},
		{"word", 0, 1, api.ErrNoSuch, func(q question, n int) api.Errno { _, e := plaint.Excludes(q.c, list(n)); return e }},
		{"minute", 0, 40, api.ErrRange, func(q question, n int) api.Errno { _, e := plaint.Where(q.c, n); return e }},
		{"start", 0, 25, api.ErrWrong, func(q question, n int) api.Errno { _, e := plaint.Truths(q.c, drive(forth(2, n))); return e }},
	} {
		for _, n := range list(x.lo-1, x.lo, x.hi, x.hi+1) {
			want := api.OK
			if n < x.lo || n > x.hi {
				want = x.e
			}
			q := ordinary()
			if e := x.ask(q, n); e != want {
				t.Error(x.name, n, e)
			}
		}
	}
}
