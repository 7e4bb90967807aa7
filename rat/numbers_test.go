package rat_test

import (
	"math"
	"slices"
	"testing"

	"laystall/api"
	"laystall/rat"
)

// TestP83Every goes through all truths of small colonies: how many rats there are, in all and from each house, is told exactly, and what is no truth is not told to be one.
func TestP83Every(t *testing.T) {
	l := &luck{5}
	clashes, wide := 0, 0
	for range 1500 {
		c := l.colony(small())
		all, starts, found := empty(), make([]api.Span, len(c.Rooms)), false
		ask(c).everyTruth(func(truth rat.Truth) {
			from, n := ratsOf(truth)
			if !found {
				all = span(n, n)
			}
			all = span(min(all.Lo, n), max(all.Hi, n))
			for house, n := range from {
				if !found {
					starts[house] = span(n, n)
				}
				starts[house] = span(min(starts[house].Lo, n), max(starts[house].Hi, n))
			}
			found = true
		})
		rats, e := rat.Rats(c)
		spans, f := rat.Starts(c)
		if !found {
			clashes++
			if rats != empty() || spans != nil || e != api.ErrClash || f != api.ErrClash {
				t.Fatal(c, rats, spans, e, f)
			}
			continue
		}
		if rats != all || !slices.Equal(spans, starts) || e != api.OK || f != api.OK {
			t.Fatal(c, rats, all, spans, starts, e, f)
		}
		wide += count(all.Lo > 0 && all.Lo < all.Hi)
	}
	if clashes < 100 || wide < 100 {
		t.Error("colonies that clash, and with more or fewer rats:", clashes, wide)
	}
}

// TestP83Found: what is found is a truth with as many rats as there are at most or at least, in colonies of all sizes.
func TestP83Found(t *testing.T) {
	l := &luck{6}
	clashes, wide := 0, 0
	for i := range 900 {
		c := l.colony(sizes(i))
		w := ask(c)
		rats, e := rat.Rats(c)
		most, f := rat.Find(c, true)
		fewest, g := rat.Find(c, false)
		if w.clashes() {
			clashes++
			if rats != empty() || most.Caught != nil || most.Left != nil || fewest.Caught != nil || fewest.Left != nil || e != api.ErrClash || f != api.ErrClash || g != api.ErrClash {
				t.Fatal(c, rats, most, fewest, e, f, g)
			}
			continue
		}
		noError(t, e, f, g)
		if rats != span(w.caught, w.caught+w.most(w.any)) {
			t.Fatal(c, rats, w.caught, w.most(w.any))
		}
		for j, truth := range []rat.Truth{fewest, most} {
			_, n := ratsOf(truth)
			if n != list(rats.Lo, rats.Hi)[j] || len(truth.Caught) != len(w.crowds) || len(truth.Left) != len(c.Rooms) || !w.isTruth(truth) {
				t.Fatal(c, j, rats, truth)
			}
			if is, e := rat.Fits(c, truth); !is || e != api.OK {
				t.Fatal(c, truth, is, e)
			}
		}
		wide += count(rats.Lo > 0 && rats.Lo < rats.Hi)
	}
	if clashes < 100 || wide < 100 {
		t.Error("colonies that clash, and with more or fewer rats:", clashes, wide)
	}
}

// TestP83Starts: in colonies of all sizes, at least as many have come from a house as have not come from the others, and no truth is beyond the spans.
func TestP83Starts(t *testing.T) {
	l := &luck{7}
	inner := 0
	for i := range 1500 {
		s := l.story(sizes(i))
		w := ask(s.Colony)
		starts, e := rat.Starts(s.Colony)
		noError(t, e)
		really, _ := ratsOf(s.truth)
		for house, span := range starts {
			rooms := slices.Clone(s.Rooms)
			rooms[house] = 0
			can := 0
			for _, x := range w.crowds {
				can += x.rats * count(x.from[house])
			}
			if w.any[house] {
				can = s.Rooms[house]
			}
			if span.Lo != w.caught-come(rooms, w.crowds) || span.Hi != min(can, s.Rooms[house]) || !has(span, really[house]) {
				t.Fatal(s.Colony, house, span, really)
			}
			inner += count(span.Lo > 0 && span.Lo < span.Hi && span.Hi < s.Rooms[house])
		}
	}
	if inner < 50 {
		t.Error("houses whose numbers are bounded on both sides:", inner)
	}
}

// TestP83Fits goes through all small truths, each of them with a number changed, and all that really happened in stories.
func TestP83Fits(t *testing.T) {
	l := &luck{8}
	right, wrong := 0, 0
	for range 1200 {
		c := l.colony(small())
		w := ask(c)
		seen := 0
		w.everyTruth(func(truth rat.Truth) {
			if seen++; seen > 300 {
				return
			}
			if is, e := rat.Fits(c, truth); !is || e != api.OK {
				t.Fatal(c, truth, is, e)
			}
			lists := append(slices.Clone(truth.Caught), truth.Left)
			n := &lists[l.below(len(lists))][l.below(len(c.Rooms))]
			before := *n
			*n += list(-1, 1, 2, -2, 61, math.MaxInt-before, math.MinInt)[l.below(7)]
			want := w.isTruth(truth)
			if is, e := rat.Fits(c, truth); is != want || e != api.OK {
				t.Fatal(c, truth, is, want, e)
			}
			*n = before
			right += count(want)
			wrong += count(!want)
		})
	}
	if right < 500 || wrong < 500 {
		t.Error("changed truths that fit, and that do not:", right, wrong)
	}
	for i := range 300 {
		s := l.story(sizes(i))
		if is, e := rat.Fits(s.Colony, s.truth); !is || e != api.OK {
			t.Fatal(s.Colony, s.truth, is, e)
		}
	}
}

// TestP83FitsEdges asks of example 3: the caught come from where they can, add up, and no room is too small; numbers that would add up to little are wrong, too.
func TestP83FitsEdges(t *testing.T) {
	first := [][]int{{2, 0, 0}, {0, 1, 0}, {0, 0, 1}, {1, 0, 0}}
	for i, x := range []struct {
		at1, at2, left []int
		is             bool
		e              api.Errno
	}{
		{list(2, 0, 1), list(0, 0, 0), list(0, 0, 4), true, api.OK},
		{list(2, 0, 1), list(0, 0, 0), list(0, 0, 0), true, api.OK},
		{list(0, 0, 3), list(0, 0, 0), list(2, 0, 2), true, api.OK},
		{list(0, 0, 3), list(0, 0, 0), list(2, 0, 3), false, api.OK},
		{list(3, 0, 0), list(0, 0, 0), list(0, 0, 0), false, api.OK},
		{list(1, 1, 1), list(0, 0, 0), list(0, 0, 0), false, api.OK},
		{list(1, 0, 1), list(0, 0, 0), list(0, 0, 0), false, api.OK},
		{list(1, 0, 2), list(0, 0, 1), list(0, 0, 0), false, api.OK},
		{list(1, 0, 2), list(0, 0, 0), list(0, 1, 0), false, api.OK},
		{list(-1, 0, 4), list(0, 0, 0), list(0, 0, 0), false, api.OK},
		{list(2, -1, 2), list(0, 0, 0), list(0, 0, 0), false, api.OK},
		{list(1, 0, 2), list(1, 0, -1), list(0, 0, 0), false, api.OK},
		{list(1, 0, 2), list(0, 0, 0), list(0, 0, -1), false, api.OK},
		{list(1, 0, 2), list(0, 0, 0), list(0, -1, 0), false, api.OK},
		{list(1, 0, 2), list(0, 0, 0), list(math.MaxInt, 0, math.MaxInt), false, api.OK},
		{list(math.MaxInt, 0, math.MinInt+4), list(0, 0, 0), list(0, 0, 0), false, api.OK},
		{list(1, 0, 2), list(0, 0), list(0, 0, 0), false, api.ErrCount},
		{list(1, 0, 2), nil, list(0, 0, 0), false, api.ErrCount},
		{list(1, 0, 2, 0), list(0, 0, 0), list(0, 0, 0), false, api.ErrCount},
		{list(1, 0, 2), list(0, 0, 0), list(0, 0), false, api.ErrCount},
		{list(1, 0, 2), list(0, 0, 0), list(0, 0, 0, 0), false, api.ErrCount},
		{list(1, 0, 2), list(0, 0, 0), nil, false, api.ErrCount},
	} {
		truth := rat.Truth{Caught: append(slices.Clone(first), x.at1, x.at2), Left: x.left}
		if is, e := rat.Fits(examples(), truth); is != x.is || e != x.e {
			t.Error(i, is, e)
		}
	}
	for n := range 9 {
		truth := rat.Truth{Caught: slices.Repeat([][]int{{0, 0, 0}}, n), Left: list(0, 0, 0)}
		if _, e := rat.Fits(examples(), truth); (e == api.OK) != (n == 6) || e != api.OK && e != api.ErrCount {
			t.Error(n, e)
		}
	}
	// A colony that clashes has no truth, and that is no error; without nights rats are left where they were.
	if is, e := rat.Fits(tight(), rat.Truth{Caught: append(slices.Clone(first), list(2, 0, 1), list(0, 0, 0)), Left: list(0, 0, 0)}); is || e != api.OK {
		t.Error(is, e)
	}
	for _, left := range [][]int{{0, 0}, {3, 4}, {4, 4}, {3, 5}, {-1, 0}} {
		is, e := rat.Fits(quiet(list(3, 4)), rat.Truth{Left: left})
		if is != (has(span(0, 3), left[0]) && has(span(0, 4), left[1])) || e != api.OK {
			t.Error(left, is, e)
		}
	}
}

// TestExample3 asks for the numbers of the chapter's third example.
func TestExample3(t *testing.T) {
	rats, e := rat.Rats(examples())
	starts, f := rat.Starts(examples())
	if rats != span(8, 12) || !slices.Equal(starts, []api.Span{span(3, 5), span(1, 1), span(2, 6)}) || e != api.OK || f != api.OK {
		t.Error(rats, starts, e, f)
	}
}
