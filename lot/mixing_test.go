package lot_test

import (
	"math"
	"slices"
	"testing"

	"laystall/api"
	"laystall/lot"
)

// mostOf returns the first lot of the greatest size that surely has a grade; nil if there is none.
func mostOf(s lot.Store, g lot.Grade) []int {
	var most []int
	parts(stock(s), func(sacks []int) {
		if surely(s, sacks, g) && total(sacks) > total(most) {
			most = slices.Clone(sacks)
		}
	})
	return most
}

// spareOf returns the greatest number of sacks of a picking with which a lot surely has a grade; -1 if there is none.
func spareOf(s lot.Store, sacks []int, g lot.Grade, picking int) int {
	spare, more := -1, slices.Clone(sacks)
	for more[picking] <= s.Pickings[picking].Sacks {
		if surely(s, more, g) {
			spare = more[picking] - sacks[picking]
		}
		more[picking]++
	}
	return spare
}

// TestP63MostExamples: the chapter's example, and several lots of the greatest size, of which the first one in lexicographic order is meant.
func TestP63MostExamples(t *testing.T) {
	foul := lot.Picking{Sacks: 2, Worst: 1}
	for i, x := range []struct {
		pickings []lot.Picking
		grades   []lot.Grade
		grade    int
		want     []int
		e        api.Errno
	}{
		{examples().Pickings, examples().Grades, 1, list(4, 6, 0), api.OK},
		{examples().Pickings, examples().Grades, 0, nil, api.ErrNone},
		{examples().Pickings, examples().Grades, 2, nil, api.ErrNoSuch},
		{examples().Pickings, examples().Grades, -1, nil, api.ErrNoSuch},
		{examples().Pickings, examples().Grades, math.MinInt, nil, api.ErrNoSuch},
		{examples().Pickings, examples().Grades, math.MaxInt, nil, api.ErrNoSuch},
		{examples().Pickings, nil, 0, nil, api.ErrNoSuch},
		// One foul sack of 5: each of both foul pickings can be in the lot with both sacks.
		{[]lot.Picking{foul, foul, {Sacks: 3}}, []lot.Grade{{20, 5}}, 0, list(0, 2, 3), api.OK},
		{[]lot.Picking{foul, {Sacks: 3}, foul}, []lot.Grade{{20, 5}}, 0, list(0, 3, 2), api.OK},
		{[]lot.Picking{foul, foul, foul}, []lot.Grade{{50, 5}}, 0, list(2, 2, 2), api.OK},
		{[]lot.Picking{foul, foul, foul}, []lot.Grade{{49, 5}}, 0, nil, api.ErrNone},
		{[]lot.Picking{foul, foul, foul}, []lot.Grade{{0, 100}, {100, 1}}, 1, list(2, 2, 2), api.OK},
		{[]lot.Picking{{}, {}}, []lot.Grade{{100, 1}}, 0, nil, api.ErrNone},
		{[]lot.Picking{{}, {Sacks: 1, Worst: 1, Opened: 1, Found: 1}}, []lot.Grade{{99, 2}, {100, 1}}, 1, list(0, 1), api.OK},
		{[]lot.Picking{{}, {Sacks: 1, Worst: 1, Opened: 1, Found: 1}}, []lot.Grade{{99, 2}, {100, 1}}, 0, nil, api.ErrNone},
	} {
		s := lot.Store{Pickings: x.pickings, Grades: x.grades}
		if got, e := lot.Most(s, x.grade); !slices.Equal(got, x.want) || e != x.e {
			t.Error(i, got, e)
		}
	}
}

// TestP63Most goes through all lots of stores.
func TestP63Most(t *testing.T) {
	l := &luck{4}
	none, ties := 0, 0
	for i := range 3000 {
		s := l.store([]size{large(), middle(), small()}[i%3])
		// Pickings that are alike, so that lots are.
		for picking := range s.Pickings {
			if l.below(2) == 0 {
				s.Pickings[picking] = s.Pickings[0]
			}
		}
		for grade, g := range s.Grades {
			want := mostOf(s, g)
			got, e := lot.Most(s, grade)
			if want == nil {
				none++
				if got != nil || e != api.ErrNone {
					t.Fatal(s, grade, got, e)
				}
				continue
			}
			if !slices.Equal(got, want) || e != api.OK {
				t.Fatal(s, grade, got, want, e)
			}
			last := want
			parts(stock(s), func(sacks []int) {
				if surely(s, sacks, g) && total(sacks) == total(want) {
					last = slices.Clone(sacks)
				}
			})
			ties += count(!slices.Equal(last, want))
		}
	}
	if none < 50 || ties < 30 {
		t.Error("grades that no lot has, and that several lots of the greatest size have:", none, ties)
	}
}

// TestP63SpareExamples: the chapter's example, and numbers of sacks with which a lot has a grade, though with fewer it has not.
func TestP63SpareExamples(t *testing.T) {
	for _, x := range []struct {
		sacks                []int
		grade, picking, want int
		e                    api.Errno
	}{
		{list(0, 2, 0), 1, 1, 4, api.OK},
		{list(0, 2, 0), 1, 0, 0, api.ErrNone},
		{list(0, 2, 0), 1, 2, 0, api.ErrNone},
		{list(0, 0, 0), 1, 1, 6, api.OK},
		{list(0, 0, 0), 1, 0, 0, api.ErrNone},
		{list(0, 6, 0), 1, 1, 0, api.OK},
		{list(0, 6, 0), 1, 0, 4, api.OK},
		{list(0, 6, 0), 1, 2, 1, api.OK},
		{list(0, 4, 0), 1, 2, 0, api.OK},
		{list(4, 6, 0), 1, 2, 0, api.OK},
		{list(4, 6, 0), 1, 0, 0, api.OK},
		{list(4, 6, 3), 1, 0, 0, api.ErrNone},
		{list(0, 6, 0), 0, 1, 0, api.ErrNone},
		{list(0, 6, 0), 2, 1, 0, api.ErrNoSuch},
		{list(0, 6, 0), -1, 1, 0, api.ErrNoSuch},
		{list(0, 6, 0), 1, 3, 0, api.ErrNoSuch},
		{list(0, 6, 0), 1, -1, 0, api.ErrNoSuch},
		{list(0, 6, 0), math.MaxInt, math.MinInt, 0, api.ErrNoSuch},
		{list(0, 7, 0), 2, 3, 0, api.ErrRange},
		{list(0, 7), 2, 3, 0, api.ErrCount},
	} {
		if n, e := lot.Spare(examples(), x.sacks, x.grade, x.picking); n != x.want || e != x.e {
			t.Error(x, n, e)
		}
	}
}

// TestP63Spare tries all numbers of sacks that can be put into a lot.
func TestP63Spare(t *testing.T) {
	l := &luck{5}
	spares, gaps := map[int]int{}, 0
	for i := range 3000 {
		s := l.store([]size{large(), middle()}[i%2])
		sacks := l.lot(s)
		for grade, g := range s.Grades {
			for picking := range s.Pickings {
				want := spareOf(s, sacks, g, picking)
				n, e := lot.Spare(s, sacks, grade, picking)
				if want < 0 && (n != 0 || e != api.ErrNone) || want >= 0 && (n != want || e != api.OK) {
					t.Fatal(s, sacks, grade, picking, n, want, e)
				}
				spares[want]++
				gaps += count(want > 0 && !surely(s, sacks, g))
			}
		}
	}
	for n := -1; n <= lot.MaxSacks; n++ {
		if spares[n] < 50 || gaps < 50 {
			t.Fatal("by the sacks that can be put into lots, and those that lots need:", spares, gaps)
		}
	}
}
