package lot_test

import (
	"math"
	"math/bits"
	"reflect"
	"testing"

	"laystall/api"
	"laystall/lot"
)

// TestP61Counts: how many pickings and grades there can be.
func TestP61Counts(t *testing.T) {
	for _, x := range []struct {
		pickings, grades int
		e                api.Errno
	}{
		{0, 0, api.ErrCount},
		{0, 4, api.ErrCount},
		{1, 0, api.OK},
		{1, 4, api.OK},
		{1, 5, api.ErrCount},
		{4, 4, api.OK},
		{5, 0, api.ErrCount},
		{5, 5, api.ErrCount},
		{500, 500, api.ErrCount},
	} {
		s := lot.Store{Pickings: make([]lot.Picking, x.pickings)}
		for i := range x.grades {
			s.Grades = append(s.Grades, lot.Grade{Foul: i % 100, Price: 100 - i%100})
		}
		if e := lot.Check(s); e != x.e {
			t.Error(x, e)
		}
	}
}

// TestP61Numbers: each number of a store at its limits, with the error beyond each of them, and far beyond.
func TestP61Numbers(t *testing.T) {
	const wide, order, clash = api.ErrRange, api.ErrOrder, api.ErrClash
	for i, x := range []struct {
		least, most  int
		below, above api.Errno
		field        func(s *lot.Store) *int
	}{
		{2, 6, wide, wide, func(s *lot.Store) *int { return &s.Pickings[0].Sacks }},
		{2, 6, wide, wide, func(s *lot.Store) *int { return &s.Pickings[1].Sacks }},
		{0, 4, wide, wide, func(s *lot.Store) *int { return &s.Pickings[0].Worst }},
		{1, 3, clash, wide, func(s *lot.Store) *int { return &s.Pickings[2].Worst }},
		{0, 4, wide, wide, func(s *lot.Store) *int { return &s.Pickings[0].Opened }},
		{1, 3, wide, wide, func(s *lot.Store) *int { return &s.Pickings[2].Opened }},
		{0, 0, wide, wide, func(s *lot.Store) *int { return &s.Pickings[0].Found }},
		{0, 1, wide, clash, func(s *lot.Store) *int { return &s.Pickings[1].Found }},
		{0, 2, wide, wide, func(s *lot.Store) *int { return &s.Pickings[2].Found }},
		{0, 29, wide, order, func(s *lot.Store) *int { return &s.Grades[0].Foul }},
		{11, 100, order, wide, func(s *lot.Store) *int { return &s.Grades[1].Foul }},
		{7, 100, order, wide, func(s *lot.Store) *int { return &s.Grades[0].Price }},
		{1, 8, wide, order, func(s *lot.Store) *int { return &s.Grades[1].Price }},
		{0, 3, wide, wide, func(s *lot.Store) *int { return &s.Lots }},
	} {
		for n, want := range map[int]api.Errno{
			math.MinInt: wide, -1: wide, 101: wide, math.MaxInt: wide,
			x.least: api.OK, x.most: api.OK, x.least - 1: x.below, x.most + 1: x.above,
		} {
			s := examples()
			*x.field(&s) = n
			if e := lot.Check(s); e != want {
				t.Error(i, n, e, want)
			}
		}
	}
}

// TestP61Order: grades that are in order, and that are not; some are out of range besides.
func TestP61Order(t *testing.T) {
	for i, x := range []struct {
		grades []lot.Grade
		e      api.Errno
	}{
		{nil, api.OK},
		{[]lot.Grade{{0, 100}}, api.OK},
		{[]lot.Grade{{100, 1}}, api.OK},
		{[]lot.Grade{{0, 100}, {1, 99}, {2, 98}, {100, 1}}, api.OK},
		{[]lot.Grade{{0, 2}, {100, 1}}, api.OK},
		{[]lot.Grade{{5, 9}, {5, 8}}, api.ErrOrder},
		{[]lot.Grade{{5, 9}, {6, 9}}, api.ErrOrder},
		{[]lot.Grade{{5, 9}, {6, 10}}, api.ErrOrder},
		{[]lot.Grade{{5, 9}, {4, 8}}, api.ErrOrder},
		{[]lot.Grade{{5, 9}, {5, 9}}, api.ErrOrder},
		{[]lot.Grade{{5, 9}, {6, 8}, {7, 7}, {7, 6}}, api.ErrOrder},
		{[]lot.Grade{{5, 9}, {6, 8}, {4, 7}}, api.ErrOrder},
		{[]lot.Grade{{5, 9}, {6, 5}, {7, 6}}, api.ErrOrder},
		{[]lot.Grade{{5, 9}, {4, 8}, {7, 0}}, api.ErrRange},
		{[]lot.Grade{{5, 9}, {5, 9}, {101, 1}}, api.ErrRange},
	} {
		s := examples()
		s.Grades = x.grades
		if e := lot.Check(s); e != x.e {
			t.Error(i, e)
		}
		// A picking whose span is empty is told only when the grades are in order.
		s.Pickings[1].Found = 2
		want := x.e
		if want == api.OK {
			want = api.ErrClash
		}
		if e := lot.Check(s); e != want {
			t.Error(i, e, want)
		}
	}
}

// seen is what was opened of a picking, once and then once more.
type seen struct{ sacks, opened, found, more, foundMore int }

// contents returns which numbers of foul sacks go with all that can be seen of pickings, sack by sack: each one is not opened, opened, or opened when more are.
func contents() map[seen][]int {
	all := map[seen][]int{}
	for sacks := range lot.MaxSacks + 1 {
		for foul := range sacks + 1 {
			known := map[seen]bool{}
			for first := range 1 << sacks {
				for more := range 1 << sacks {
					if first&more != 0 {
						continue
					}
					bad := 1<<foul - 1
					known[seen{sacks, bits.OnesCount(uint(first)), bits.OnesCount(uint(first & bad)), bits.OnesCount(uint(more)), bits.OnesCount(uint(more & bad))}] = true
				}
			}
			for s := range known {
				all[s] = append(all[s], foul)
			}
		}
	}
	return all
}

// upTo returns the least and the greatest of the first numbers of a list, which increase, up to a limit; and whether there are some, all between them included.
func upTo(t *testing.T, numbers []int, most int) (api.Span, bool) {
	s, found := empty(), false
	for _, n := range numbers {
		if n > most {
			break
		}
		if !found {
			s = point(n)
		}
		if n > s.Hi+1 {
			t.Fatal("a gap:", numbers)
		}
		s.Hi, found = n, true
	}
	return s, found
}

// TestP61Foul: the span of each picking that there can be, alone and in a store, by its sacks.
func TestP61Foul(t *testing.T) {
	clashes := 0
	for x, numbers := range contents() {
		if x.more > 0 {
			continue
		}
		for worst := range x.sacks + 1 {
			p := lot.Picking{Sacks: x.sacks, Worst: worst, Opened: x.opened, Found: x.found}
			want, found := upTo(t, numbers, worst)
			alone := lot.Store{Pickings: []lot.Picking{p}}
			among := examples()
			among.Pickings[1] = p
			a, e := lot.Foul(alone, 0)
			b, f := lot.Foul(among, 1)
			if !found {
				clashes++
				if e != api.ErrClash || f != api.ErrClash || lot.Check(alone) != api.ErrClash {
					t.Fatal(p, e, f)
				}
				continue
			}
			if a != want || b != want || e != api.OK || f != api.OK {
				t.Fatal(p, a, e, b, f, want)
			}
		}
	}
	if clashes < 50 {
		t.Error("pickings that cannot be:", clashes)
	}
}

// TestP61Examples: the chapter's spans.
func TestP61Examples(t *testing.T) {
	for picking, want := range []api.Span{span(0, 2), span(0, 1), span(1, 2)} {
		if got, e := lot.Foul(examples(), picking); got != want || e != api.OK {
			t.Error(picking, got, e)
		}
	}
	for _, picking := range []int{-1, 3, math.MinInt, math.MaxInt} {
		if got, e := lot.Foul(examples(), picking); got != empty() || e != api.ErrNoSuch {
			t.Error(picking, got, e)
		}
	}
}

// TestP61Open opens more sacks of each picking that there can be, whatever is found; the span is what then can be, sack by sack.
func TestP61Open(t *testing.T) {
	opened, clashes := 0, 0
	for x, numbers := range contents() {
		for worst := range x.sacks + 1 {
			p := lot.Picking{Sacks: x.sacks, Worst: worst, Opened: x.opened, Found: x.found}
			s := examples()
			s.Pickings[2] = p
			if lot.Check(s) == api.ErrClash {
				continue
			}
			before := copyOf(s)
			o, e := lot.Open(s, 2, x.more, x.foundMore)
			want, found := upTo(t, numbers, worst)
			if !reflect.DeepEqual(s, before) {
				t.Fatal(p, s)
			}
			if !found {
				clashes++
				if e != api.ErrClash || !reflect.DeepEqual(o, lot.Store{}) {
					t.Fatal(p, x, o, e)
				}
				continue
			}
			opened++
			after := before
			after.Pickings[2] = lot.Picking{Sacks: x.sacks, Worst: worst, Opened: x.opened + x.more, Found: x.found + x.foundMore}
			got, f := lot.Foul(o, 2)
			if !reflect.DeepEqual(o, after) || got != want || e != api.OK || f != api.OK {
				t.Fatal(p, x, o, got, want, e, f)
			}
		}
	}
	if opened < 1000 || clashes < 100 {
		t.Error("opened, and impossible:", opened, clashes)
	}
}

// TestP61OpenErrors: sacks that cannot be opened, or not be foul.
func TestP61OpenErrors(t *testing.T) {
	for _, x := range []struct {
		picking, opened, found int
		e                      api.Errno
	}{
		{0, 4, 2, api.OK},
		{0, 4, 3, api.ErrClash},
		{0, 5, 0, api.ErrRange},
		{0, 0, 1, api.ErrRange},
		{0, -1, -1, api.ErrRange},
		{0, 4, 5, api.ErrRange},
		{0, 4, -1, api.ErrRange},
		{1, 4, 1, api.OK},
		{1, 4, 2, api.ErrClash},
		{1, 5, 2, api.ErrRange},
		{2, 1, 1, api.OK},
		{2, 1, 2, api.ErrRange},
		{2, 2, 0, api.ErrRange},
		{3, 0, 0, api.ErrNoSuch},
		{-1, 9, 9, api.ErrNoSuch},
		{0, math.MaxInt, 0, api.ErrRange},
		{0, math.MinInt, 0, api.ErrRange},
		{0, 1, math.MaxInt, api.ErrRange},
		{0, 1, math.MinInt, api.ErrRange},
		{math.MaxInt, 1, 1, api.ErrNoSuch},
	} {
		o, e := lot.Open(examples(), x.picking, x.opened, x.found)
		if e != x.e || e != api.OK && !reflect.DeepEqual(o, lot.Store{}) {
			t.Error(x, o, e)
		}
	}
}
