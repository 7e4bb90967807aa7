package round_test

import (
	"math"
	"slices"
	"testing"

	"laystall/api"
	"laystall/round"
	"laystall/street"
)

// TestP31Limits asks with each number of a day at its limits, and one beyond.
func TestP31Limits(t *testing.T) {
	for _, x := range []struct {
		name   string
		lo, hi int
		e      api.Errno
		set    func(d *round.Day, n int)
	}{
		{"yard", 0, 2, api.ErrNoSuch, func(d *round.Day, n int) { d.Yard = n }},
		{"tip", 0, 2, api.ErrNoSuch, func(d *round.Day, n int) { d.Tip = n }},
		{"corner", 0, 2, api.ErrNoSuch, func(d *round.Day, n int) { d.Bins[2].Corner = n }},
		{"minutes", 0, 15, api.ErrRange, func(d *round.Day, n int) { d.Bins[2].Minutes = n }},
		{"lo", 0, 400, api.ErrRange, func(d *round.Day, n int) { d.Bins[2].Holds = span(n, 400) }},
		{"hi", 0, 400, api.ErrRange, func(d *round.Day, n int) { d.Bins[2].Holds = span(0, n) }},
		{"both", 0, 400, api.ErrRange, func(d *round.Day, n int) { d.Bins[2].Holds = span(n, n) }},
		{"lo and hi", 7, 400, api.ErrRange, func(d *round.Day, n int) { d.Bins[2].Holds = span(7, n) }},
		{"weekday", 0, 6, api.ErrRange, func(d *round.Day, n int) { d.Bins[2].Days = list(n) }},
		{"first weekday", 0, 3, api.ErrRange, func(d *round.Day, n int) {
			d.Bins[0].Days = list(n, 4, 5)
			if n == 4 {
				d.Bins[0].Days[2] = 7
			}
		}},
		{"wide", 1, 9, api.ErrRange, func(d *round.Day, n int) { d.Carts[1].Wide = n }},
		{"holds", 0, 900, api.ErrRange, func(d *round.Day, n int) { d.Carts[1].Holds = n }},
		{"lifts", 0, 2000, api.ErrRange, func(d *round.Day, n int) { d.Carts[1].Lifts = n }},
		{"start", 0, 240, api.ErrRange, func(d *round.Day, n int) { d.Carts[1].Start = n }},
		{"until", 0, 240, api.ErrRange, func(d *round.Day, n int) { d.Carts[1].Until = n }},
		{"bins", 0, 6, api.ErrCount, func(d *round.Day, n int) { d.Bins = make([]round.Bin, max(n, 0)) }},
		{"carts", 0, 3, api.ErrCount, func(d *round.Day, n int) { d.Carts = slices.Repeat(d.Carts[:1], max(n, 0)) }},
	} {
		for _, n := range []int{math.MinInt, x.lo - 1, x.lo, x.hi, x.hi + 1, math.MaxInt} {
			none := x.e == api.ErrCount && n < 0
			if x.e == api.ErrCount && n == math.MaxInt {
				continue
			}
			d := examples()
			x.set(&d, n)
			want := api.OK
			if n < x.lo && !none || n > x.hi {
				want = x.e
			}
			if e := round.Check(d); e != want {
				t.Error(x.name, n, e)
			}
		}
	}
}

// TestP31Check: days that are right, and the errors of towns and of lists of days.
func TestP31Check(t *testing.T) {
	for i, x := range []struct {
		change func(d *round.Day)
		e      api.Errno
	}{
		{func(d *round.Day) {}, api.OK},
		{func(d *round.Day) { d.Tip = d.Yard }, api.OK},
		{func(d *round.Day) { d.Bins, d.Carts = nil, nil }, api.OK},
		{func(d *round.Day) { d.Bins[0].Days = nil }, api.OK},
		{func(d *round.Day) { d.Bins[0].Days = list(0, 1, 2, 3, 4, 5, 6) }, api.OK},
		{func(d *round.Day) { d.Carts[0].Start, d.Carts[0].Until = 240, 0 }, api.OK},
		{func(d *round.Day) { d.Town = street.Town{} }, api.ErrRange},
		{func(d *round.Day) { d.Town.Streets = make([]street.Street, 17) }, api.ErrCount},
		{func(d *round.Day) { d.Town.Streets[1].To = 1 }, api.ErrNoSuch},
		{func(d *round.Day) { d.Town.Streets[1].Minutes = 31 }, api.ErrRange},
		{func(d *round.Day) { d.Bins[1].Holds = span(5, 4) }, api.ErrRange},
		{func(d *round.Day) { d.Bins[1].Days = list(3, 2) }, api.ErrOrder},
		{func(d *round.Day) { d.Bins[1].Days = list(2, 2) }, api.ErrOrder},
		{func(d *round.Day) { d.Bins[1].Days = list(0, 1, 2, 3, 4, 5, 6, 6) }, api.ErrOrder},
		{func(d *round.Day) { d.Bins[1].Days = list(2, 2, 7) }, api.ErrRange},
	} {
		d := examples()
		x.change(&d)
		if e := round.Check(d); e != x.e {
			t.Error(i, e)
		}
	}
}

// TestP31Due: the bins of each day of the week, of the examples and of any day.
func TestP31Due(t *testing.T) {
	for weekday, want := range [][]int{{0, 1}, nil, nil, {0, 2}, nil, nil, nil} {
		if bins, e := round.Due(examples(), weekday); !slices.Equal(bins, want) || e != api.OK {
			t.Error(weekday, bins, e)
		}
	}
	for _, weekday := range list(math.MinInt, -1, 7, math.MaxInt) {
		if bins, e := round.Due(examples(), weekday); bins != nil || e != api.ErrRange {
			t.Error(weekday, bins, e)
		}
	}
	l := &luck{1}
	for range 200 {
		d := l.day(6, 400)
		for weekday := range round.Week {
			bins, e := round.Due(d, weekday)
			noError(t, e)
			for bin, b := range d.Bins {
				if slices.Contains(b.Days, weekday) != slices.Contains(bins, bin) || !slices.IsSorted(bins) {
					t.Fatal(d, weekday, bins)
				}
			}
		}
	}
}
