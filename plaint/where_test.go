package plaint_test

import (
	"slices"
	"testing"

	"laystall/api"
	"laystall/plaint"
)

// TestP95Examples: the chapter's example 4, minutes at which the cart is in a street, and at the ends of the time.
func TestP95Examples(t *testing.T) {
	lie := examples(away(2, 0, 40), seen(1, 5, 5))
	lie.Lies = 1
	for i, x := range []struct {
		c      plaint.Case
		minute int
		want   []int
		e      api.Errno
	}{
		{examples(), 0, list(0), api.OK},
		{examples(), 1, list(0), api.OK},
		{examples(), 5, list(0), api.OK},
		{examples(), 6, nil, api.OK},
		{examples(), 9, nil, api.OK},
		{examples(), 10, list(1), api.OK},
		{examples(), 11, nil, api.OK},
		{examples(), 14, nil, api.OK},
		{examples(), 15, list(2), api.OK},
		{examples(), 20, list(2), api.OK},
		{examples(), 29, list(2), api.OK},
		{examples(), 30, list(1, 2), api.OK},
		{examples(), 34, list(1, 2), api.OK},
		{examples(), 35, list(0, 1, 2), api.OK},
		{examples(), 40, list(0, 1, 2), api.OK},
		{examples(), 41, nil, api.ErrRange},
		{examples(), -1, nil, api.ErrRange},
		{examples(away(2, 0, 40)), 5, nil, api.OK},
		{examples(away(2, 0, 40)), 40, list(0, 1, 2), api.OK},
		{examples(away(2, 0, 40)), 39, list(1, 2), api.OK},
		{lie, 0, list(0), api.OK},
		{lie, 10, list(1), api.OK},
		{lie, 41, nil, api.ErrRange},
		{examples(seen(1, 5, 5)), 5, nil, api.ErrClash},
		{examples(seen(1, 5, 5)), 41, nil, api.ErrRange},
		{examples(seen(1, 5, 5), away(3, 0, 0)), 41, nil, api.ErrNoSuch},
		{quiet(triangle(), 0), 0, list(0), api.OK},
		{quiet(triangle(), 0), 1, nil, api.ErrRange},
		{with(quiet(triangle(), 60), 2), 9, list(2), api.OK},
		{with(quiet(triangle(), 60), 2), 10, list(1, 2), api.OK},
		{with(quiet(triangle(), 60), 2), 60, list(0, 1, 2), api.OK},
		{told(quiet(triangle(), 40), 1, seen(1, 10, 10), seen(2, 15, 15)), 10, list(1), api.OK},
		{told(quiet(triangle(), 40), 1, seen(1, 10, 10), seen(2, 15, 15)), 15, list(1, 2), api.OK},
		{told(quiet(triangle(), 40), 0, seen(1, 10, 10), seen(1, 11, 60), away(0, 20, 60), away(1, 0, 60)), 40, list(1), api.OK},
		{told(quiet(triangle(), 40), 0, seen(1, 10, 10), seen(1, 11, 60), away(0, 0, 60), away(1, 0, 60)), 40, nil, api.ErrClash},
	} {
		if l, e := plaint.Where(x.c, x.minute); !slices.Equal(l, x.want) || e != x.e {
			t.Error(i, l, e)
		}
	}
}

// whereAsWanted fails a test unless all corners are told, at all minutes, at which the cart can be; it returns at how many.
func whereAsWanted(t *testing.T, c plaint.Case, can func(corner, minute int) bool) int {
	t.Helper()
	n := 0
	for minute := range c.Until + 1 {
		var want []int
		for corner := range c.Town.Corners {
			if can(corner, minute) {
				want = append(want, corner)
			}
		}
		if l, e := plaint.Where(c, minute); !slices.Equal(l, want) || e != api.OK {
			t.Fatal(c, minute, l, want, e)
		}
		n += len(want)
	}
	return n
}

// TestP95Every goes through all drives of small cases.
func TestP95Every(t *testing.T) {
	l := &luck{10}
	there, clashes := 0, 0
	for range 200 {
		c := l.plaint(small())
		fit, at := 0, map[[2]int]bool{}
		each(c, func(d tale) {
			if d.lies() > c.Lies {
				return
			}
			fit++
			for minute := range c.Until + 1 {
				at[[2]int{d.at[minute], minute}] = true
			}
		})
		if fit == 0 {
			clashes++
			if l, e := plaint.Where(c, c.Until); l != nil || e != api.ErrClash {
				t.Fatal(c, l, e)
			}
			continue
		}
		there += whereAsWanted(t, c, func(corner, minute int) bool { return at[[2]int{corner, minute}] })
	}
	if there < 1500 || clashes < 10 {
		t.Error("corners at which the cart can be, and cases that no drive fits:", there, clashes)
	}
}

// TestP95Large asks cases of all sizes: the cart can be at a corner if a further word, that it is, can be true.
func TestP95Large(t *testing.T) {
	l := &luck{11}
	there, clashes := 0, 0
	for i := range 200 {
		c := l.plaint(sizes(i))
		minute := l.from(0, c.Until)
		got, e := plaint.Where(c, minute)
		var want []int
		clash := false
		for corner := range c.Town.Corners {
			can := outcomesOf(c, seen(corner, minute, minute)).fitting()
			clash = clash || can.none()
			if !clash && can.trusted()[len(c.Words)] != plaint.Untrue {
				want = append(want, corner)
			}
		}
		if clash != (e == api.ErrClash) || !clash && e != api.OK || !slices.Equal(got, want) {
			t.Fatal(c, minute, got, want, e)
		}
		there += len(want)
		clashes += count(clash)
	}
	if there < 250 || clashes < 10 {
		t.Error("corners, and cases that no drive fits:", there, clashes)
	}
}
