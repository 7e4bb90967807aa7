package plaint_test

import (
	"math"
	"slices"
	"testing"

	"laystall/api"
	"laystall/plaint"
	"laystall/street"
)

// asked is a drive, the streets that it serves, and the error.
type asked struct {
	c      plaint.Case
	drive  []plaint.Step
	serves []int
	e      api.Errno
}

// drivesAsWanted fails a test unless drives in cases without words are such ones, or have the errors that are told.
func drivesAsWanted(t *testing.T, rows []asked) {
	t.Helper()
	for i, x := range rows {
		l, e := plaint.Serves(x.c, x.drive)
		truths, f := plaint.Truths(x.c, x.drive)
		is, g := plaint.Fits(x.c, x.drive)
		if !slices.Equal(l, x.serves) || e != x.e || len(truths) != 0 || f != x.e || is != (e == api.OK) || g != x.e {
			t.Error(i, l, e, truths, f, is, g)
		}
	}
}

// TestP92Drives: where and when steps of a drive may begin and end.
func TestP92Drives(t *testing.T) {
	all := quiet(triangle(), 60)
	drivesAsWanted(t, []asked{
		{all, nil, nil, api.OK},
		{all, drive(forth(0, 0)), list(0), api.OK},
		{all, drive(forth(0, 50)), list(0), api.OK},
		{all, drive(forth(0, 51)), nil, api.ErrWrong},
		{all, drive(forth(0, -1)), nil, api.ErrWrong},
		{all, drive(forth(0, 60)), nil, api.ErrWrong},
		{all, drive(forth(0, 61)), nil, api.ErrWrong},
		{all, drive(forth(0, 240)), nil, api.ErrWrong},
		{all, drive(forth(0, math.MaxInt)), nil, api.ErrWrong},
		{all, drive(forth(0, math.MaxInt-9)), nil, api.ErrWrong},
		{all, drive(forth(0, math.MinInt)), nil, api.ErrWrong},
		{all, drive(back(0, 0)), nil, api.ErrWrong},
		{all, drive(forth(1, 0)), nil, api.ErrWrong},
		{all, drive(forth(0, 0), forth(1, 9)), nil, api.ErrWrong},
		{all, drive(forth(0, 0), forth(1, 10)), list(0, 1), api.OK},
		{all, drive(forth(0, 0), forth(1, 11)), list(0, 1), api.OK},
		{all, drive(forth(0, 0), forth(0, 10)), nil, api.ErrWrong},
		{all, drive(forth(0, 0), back(0, 10), forth(2, 20), back(2, 35), forth(0, 50)), list(0, 2), api.OK},
		{all, drive(forth(2, 3), back(1, 20), back(0, 30), forth(2, 41)), list(0, 1, 2), api.OK},
		{all, drive(forth(2, 3), back(1, 20), back(0, 30), forth(2, 46)), nil, api.ErrWrong},
		{all, drive(forth(2, 3), back(1, 20), back(0, 29), forth(2, 41)), nil, api.ErrWrong},
		{quiet(triangle(), 0), nil, nil, api.OK},
		{quiet(triangle(), 0), drive(forth(0, 0)), nil, api.ErrWrong},
		{quiet(triangle(), 9), drive(forth(0, 0)), nil, api.ErrWrong},
		{quiet(triangle(), 10), drive(forth(0, 0)), list(0), api.OK},
		{with(all, 2), drive(forth(0, 0)), nil, api.ErrWrong},
		{with(all, 2), drive(back(2, 0)), list(2), api.OK},
	})
}

// TestP92Laws: streets that are shut, narrow, one-way, weak or steep.
func TestP92Laws(t *testing.T) {
	shut, narrow, oneWay, weak, steep := quiet(triangle(), 40), quiet(triangle(), 40), quiet(triangle(), 40), quiet(triangle(), 40), quiet(triangle(), 40)
	shut.Town.Streets[1].Shut = api.Span{Lo: 15, Hi: 16}
	narrow.Town.Streets[0].Wide = 2
	oneWay.Town.Streets[1].Back = false
	weak.Town.Streets[2].Bears, weak.Cart.Load = 3, 4
	steep.Town.Streets[0].Up, steep.Cart.Load = 3, 5
	late := quiet(town(2, street.Street{From: 0, To: 1, Minutes: 5, Wide: 9, Bears: 9, Shut: api.Span{Lo: 9, Hi: 239}}), 60)
	drivesAsWanted(t, []asked{
		{shut, drive(forth(0, 0), forth(1, 10)), nil, api.ErrWrong},
		{shut, drive(forth(0, 0), forth(1, 15)), nil, api.ErrWrong},
		{shut, drive(forth(0, 0), forth(1, 16)), nil, api.ErrWrong},
		{shut, drive(forth(0, 0), forth(1, 17)), list(0, 1), api.OK},
		{with(shut, 2), drive(back(1, 5)), list(1), api.OK},
		{with(shut, 2), drive(back(1, 6)), nil, api.ErrWrong},
		{narrow, drive(forth(0, 0)), nil, api.ErrWrong},
		{narrow, drive(forth(2, 0)), list(2), api.OK},
		{oneWay, drive(forth(2, 0), back(1, 15)), nil, api.ErrWrong},
		{oneWay, drive(forth(0, 0), forth(1, 10)), list(0, 1), api.OK},
		{weak, drive(forth(2, 0)), nil, api.ErrWrong},
		{weak, drive(forth(0, 0)), list(0), api.OK},
		{steep, drive(forth(0, 15)), list(0), api.OK},
		{steep, drive(forth(0, 16)), nil, api.ErrWrong},
		{steep, drive(forth(0, 0), back(0, 24)), nil, api.ErrWrong},
		{steep, drive(forth(0, 0), back(0, 25)), list(0), api.OK},
		{steep, drive(forth(0, 0), back(0, 30)), list(0), api.OK},
		{steep, drive(forth(0, 0), back(0, 31)), nil, api.ErrWrong},
		{late, drive(forth(0, 4)), list(0), api.OK},
		{late, drive(forth(0, 5)), nil, api.ErrWrong},
	})
}

// with returns a case in which the cart begins elsewhere.
func with(c plaint.Case, from int) plaint.Case {
	c.From = from
	return c
}

// TestP92Steps: a drive can have a step in each minute, and no more.
func TestP92Steps(t *testing.T) {
	c := told(quiet(town(2, plain(0, 1, 1), plain(0, 1, 1)), 60), 0, passed(0, 58, 59), passed(1, 59, 60), seen(0, 60, 60))
	var turns []plaint.Step
	for m := range 30 {
		turns = append(turns, forth(0, 2*m), back(1, 2*m+1))
	}
	if l, e := plaint.Serves(c, turns); !slices.Equal(l, list(0, 1)) || e != api.OK {
		t.Error(l, e)
	}
	if is, e := plaint.Fits(c, turns); !is || e != api.OK {
		t.Error(is, e)
	}
	for _, last := range []plaint.Step{forth(0, 60), forth(1, 59), forth(2, 60), {}} {
		if l, e := plaint.Serves(c, append(turns, last)); l != nil || e != api.ErrCount {
			t.Error(last, l, e)
		}
	}
}

// truth is a word, and whether it is true of a drive.
type truth struct {
	drive []plaint.Step
	word  plaint.Word
	is    bool
}

// long is a drive in which the cart waits at each corner but one.
func long() []plaint.Step { return drive(forth(0, 3), forth(1, 13), back(2, 25)) }

// truthsAsWanted fails a test unless words are true of drives as it is told.
func truthsAsWanted(t *testing.T, rows []truth) {
	t.Helper()
	c := quiet(triangle(), 40)
	for i, x := range rows {
		truths, e := plaint.Truths(told(c, 0, x.word), x.drive)
		strict, f := plaint.Fits(told(c, 0, x.word), x.drive)
		kind, g := plaint.Fits(told(c, 1, x.word), x.drive)
		if !slices.Equal(truths, []bool{x.is}) || strict != x.is || !kind || e != api.OK || f != api.OK || g != api.OK {
			t.Error(i, x.drive, x.word, truths, strict, kind, e, f, g)
		}
	}
}

// TestP92Seen: the cart is at a corner from the end of a step to the beginning of the next one, both included, and until Until.
func TestP92Seen(t *testing.T) {
	truthsAsWanted(t, []truth{
		{long(), seen(0, 0, 0), true},
		{long(), seen(0, 3, 3), true},
		{long(), seen(0, 4, 39), false},
		{long(), seen(0, 4, 40), true},
		{long(), seen(0, 40, 60), true},
		{long(), seen(0, 41, 60), false},
		{long(), seen(1, 0, 12), false},
		{long(), seen(1, 0, 13), true},
		{long(), seen(1, 13, 13), true},
		{long(), seen(1, 14, 60), false},
		{long(), seen(2, 23, 23), true},
		{long(), seen(2, 24, 24), true},
		{long(), seen(2, 25, 25), true},
		{long(), seen(2, 0, 22), false},
		{long(), seen(2, 26, 60), false},
		{nil, seen(0, 40, 40), true},
		{nil, seen(0, 41, 41), false},
		{nil, seen(1, 0, 60), false},
		{drive(forth(0, 30)), seen(1, 40, 40), true},
		{drive(forth(0, 30)), seen(1, 41, 60), false},
		{drive(forth(0, 29)), seen(1, 40, 40), true},
	})
}

// TestP92Passed: one step alone passes the street within the minutes of the word.
func TestP92Passed(t *testing.T) {
	truthsAsWanted(t, []truth{
		{long(), passed(0, 3, 13), true},
		{long(), passed(0, 4, 13), false},
		{long(), passed(0, 3, 12), false},
		{long(), passed(0, 0, 60), true},
		{long(), passed(1, 13, 23), true},
		{long(), passed(1, 13, 22), false},
		{long(), passed(1, 14, 60), false},
		{long(), passed(2, 25, 40), true},
		{long(), passed(2, 25, 39), false},
		{long(), passed(2, 26, 40), false},
		{nil, passed(0, 0, 60), false},
		{drive(forth(0, 0), back(0, 10), forth(0, 20)), passed(0, 5, 25), true},
		{drive(forth(0, 0), back(0, 10), forth(0, 20)), passed(0, 5, 19), false},
		{drive(forth(0, 0), back(0, 10), forth(0, 20)), passed(0, 20, 30), true},
		{drive(forth(0, 0), back(0, 10), forth(0, 20)), passed(0, 21, 60), false},
	})
}

// TestP92Away: a step is in a street from its start to the minute before it ends.
func TestP92Away(t *testing.T) {
	truthsAsWanted(t, []truth{
		{long(), away(0, 0, 2), true},
		{long(), away(0, 0, 3), false},
		{long(), away(0, 3, 3), false},
		{long(), away(0, 12, 12), false},
		{long(), away(0, 13, 60), true},
		{long(), away(0, 12, 60), false},
		{long(), away(0, 7, 8), false},
		{long(), away(0, 0, 60), false},
		{long(), away(1, 13, 13), false},
		{long(), away(1, 0, 12), true},
		{long(), away(1, 22, 22), false},
		{long(), away(1, 23, 60), true},
		{long(), away(2, 24, 24), true},
		{long(), away(2, 25, 25), false},
		{long(), away(2, 39, 39), false},
		{long(), away(2, 40, 60), true},
		{nil, away(2, 0, 60), true},
		{drive(forth(2, 0), back(2, 20)), away(2, 15, 19), true},
		{drive(forth(2, 0), back(2, 20)), away(2, 14, 19), false},
		{drive(forth(2, 0), back(2, 20)), away(2, 15, 20), false},
	})
}

// TestP92Lies: a drive fits as long as no more words are untrue than may be.
func TestP92Lies(t *testing.T) {
	c := examples(seen(1, 5, 5), away(2, 14, 14), passed(2, 0, 15), passed(2, 1, 15))
	d := drive(forth(2, 0))
	truths, e := plaint.Truths(c, d)
	if !slices.Equal(truths, []bool{true, false, false, true, false}) || e != api.OK {
		t.Error(truths, e)
	}
	for lies := range plaint.MaxWords + 1 {
		c.Lies = lies
		if is, e := plaint.Fits(c, d); is != (lies >= 3) || e != api.OK {
			t.Error(lies, is, e)
		}
	}
}

// TestP92Every goes through all drives of small cases.
func TestP92Every(t *testing.T) {
	l := &luck{3}
	drives, fit, clashes := 0, 0, 0
	for range 250 {
		c := l.plaint(small())
		found := false
		each(c, func(s tale) {
			drives++
			truths, e := plaint.Truths(c, s.drive)
			is, f := plaint.Fits(c, s.drive)
			streets, g := plaint.Serves(c, s.drive)
			want := list()
			for x := range c.Town.Streets {
				if s.serves(x) {
					want = append(want, x)
				}
			}
			if !slices.Equal(truths, s.truths(c.Words)) || is != (s.lies() <= c.Lies) || !slices.Equal(streets, want) || e != api.OK || f != api.OK || g != api.OK {
				t.Fatal(c, s.drive, truths, is, streets, e, f, g)
			}
			found = found || is
			fit += count(is)
		})
		clashes += count(!found)
		if d, e := plaint.Find(c); (e == api.OK) != found || !found && (e != api.ErrClash || d != nil) {
			t.Fatal(c, d, e)
		}
	}
	if drives < 10000 || fit < 2000 || clashes < 15 {
		t.Error("drives, those that fit, and cases that none fits:", drives, fit, clashes)
	}
}

// TestP92Large asks what really was driven, and drives that were spoiled, in cases of all sizes.
func TestP92Large(t *testing.T) {
	l := &luck{4}
	wrong, steps := 0, 0
	for i := range 1500 {
		s := l.story(sizes(i))
		d := slices.Clone(s.drive)
		steps += len(d)
		if is, e := plaint.Fits(s.Case, d); !is || e != api.OK {
			t.Fatal(s.Case, d, is, e)
		}
		if len(d) == 0 {
			continue
		}
		switch step := &d[l.below(len(d))]; l.below(3) {
		case 0:
			step.Start += l.from(-3, 3)
		case 1:
			step.Back = !step.Back
		case 2:
			step.Street = l.below(len(s.Town.Streets))
		}
		other, is := taleOf(s.Case, d)
		truths, e := plaint.Truths(s.Case, d)
		fits, f := plaint.Fits(s.Case, d)
		if !is {
			wrong++
			if truths != nil || fits || e != api.ErrWrong || f != api.ErrWrong {
				t.Fatal(s.Case, d, truths, fits, e, f)
			}
			continue
		}
		if !slices.Equal(truths, other.truths(s.Words)) || fits != (other.lies() <= s.Lies) || e != api.OK || f != api.OK {
			t.Fatal(s.Case, d, truths, fits, e, f)
		}
	}
	if wrong < 400 || steps < 2000 {
		t.Error("drives that were spoiled, and steps:", wrong, steps)
	}
}

// TestP92Find: a drive that is told fits; there is none only where none fits.
func TestP92Find(t *testing.T) {
	l := &luck{5}
	clashes := 0
	for i := range 300 {
		c := l.plaint(sizes(i))
		d, e := plaint.Find(c)
		if outcomesOf(c).fitting().none() {
			clashes++
			if d != nil || e != api.ErrClash {
				t.Fatal(c, d, e)
			}
			continue
		}
		s, can := taleOf(c, d)
		if e != api.OK || !can || s.lies() > c.Lies || len(d) > plaint.MaxSteps {
			t.Fatal(c, d, e)
		}
	}
	if clashes < 20 {
		t.Error("cases that no drive fits:", clashes)
	}
	for i, x := range []struct {
		c plaint.Case
		e api.Errno
	}{
		{examples(), api.OK},
		{quiet(triangle(), 0), api.OK},
		{quiet(town(1), 60), api.OK},
		{told(quiet(town(1), 60), 0, seen(0, 60, 60)), api.OK},
		{told(quiet(town(1), 59), 0, seen(0, 60, 60)), api.ErrClash},
		{told(quiet(town(1), 59), 1, seen(0, 60, 60)), api.OK},
		{told(quiet(triangle(), 40), 0, seen(1, 40, 40)), api.OK},
		{told(quiet(triangle(), 40), 0, seen(1, 9, 9)), api.ErrClash},
		{told(quiet(triangle(), 40), 0, seen(1, 10, 10), seen(2, 20, 20), seen(0, 35, 35)), api.OK},
		{told(quiet(triangle(), 40), 0, seen(1, 10, 10), seen(2, 20, 20), seen(0, 34, 34)), api.ErrClash},
		{told(quiet(triangle(), 40), 0, passed(0, 5, 15), away(0, 0, 4), away(0, 15, 60)), api.OK},
		{told(quiet(triangle(), 40), 0, passed(0, 5, 15), away(0, 0, 5)), api.ErrClash},
	} {
		d, e := plaint.Find(x.c)
		if is, f := plaint.Fits(x.c, d); e != x.e || x.e == api.OK && (!is || f != api.OK) {
			t.Error(i, d, e, is, f)
		}
	}
}
