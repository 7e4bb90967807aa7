package round_test

import (
	"slices"
	"testing"

	"laystall/api"
	"laystall/round"
)

// isPlan reports whether a list is a plan for some bins, by the words of the chapter.
func isPlan(d round.Day, bins []int, plan [][]int) bool {
	if len(plan) != len(d.Carts) {
		return false
	}
	if !slices.Equal(slices.Sorted(slices.Values(slices.Concat(plan...))), bins) {
		return false
	}
	for cart, o := range plan {
		if len(o) > 0 && !done(d, cart, o, most(d, 0)) {
			return false
		}
	}
	return true
}

// uses returns how many rounds of a plan have bins.
func uses(plan [][]int) int {
	used := 0
	for _, o := range plan {
		if len(o) > 0 {
			used++
		}
	}
	return used
}

// TestP35Fewest: the chapter's examples, days without bins or carts, and carts that are late even without bins.
func TestP35Fewest(t *testing.T) {
	for i, x := range []struct {
		change func(d *round.Day)
		bins   []int
		many   int
		spare  []int
		e      api.Errno
	}{
		{nil, list(0, 1, 2), 2, nil, api.OK},
		{nil, list(0, 1), 1, list(1), api.OK},
		{nil, list(0, 2), 1, list(1), api.OK},
		{nil, list(2), 1, list(0, 1), api.OK},
		{nil, nil, 0, list(0, 1), api.OK},
		{func(d *round.Day) { d.Carts = d.Carts[1:] }, list(0, 1), 0, nil, api.ErrNone},
		{func(d *round.Day) { d.Carts = d.Carts[1:] }, list(0), 1, nil, api.OK},
		{func(d *round.Day) { d.Carts = nil }, nil, 0, nil, api.OK},
		{func(d *round.Day) { d.Carts = nil }, list(0), 0, nil, api.ErrNone},
		{func(d *round.Day) { d.Carts[0].Until = 0 }, list(2), 1, list(0), api.OK},
		{func(d *round.Day) { d.Carts[0].Until = 0 }, nil, 0, list(0, 1), api.OK},
		{func(d *round.Day) { d.Carts[1].Until = 0 }, list(0, 1, 2), 0, nil, api.ErrNone},
		{func(d *round.Day) { d.Carts = append(d.Carts, d.Carts[1]) }, list(0, 1, 2), 2, list(1, 2), api.OK},
		{func(d *round.Day) { d.Carts = slices.Repeat(d.Carts[1:], 3) }, list(0, 1, 2), 3, nil, api.OK},
		{func(d *round.Day) { d.Carts = slices.Repeat(d.Carts[1:], 3) }, list(0, 1), 2, list(0, 1, 2), api.OK},
	} {
		d := examples()
		if x.change != nil {
			x.change(&d)
		}
		plan, many, e := round.Fewest(d, x.bins)
		spare, f := round.Spare(d, x.bins)
		if many != x.many || e != x.e || !slices.Equal(spare, x.spare) || f != x.e {
			t.Error(i, plan, many, e, spare, f)
		}
		if e == api.OK && (!isPlan(d, x.bins, plan) || uses(plan) != many) || e != api.OK && plan != nil {
			t.Error(i, plan, many)
		}
	}
}

// TestP35Covers: plans, and lists that are wrong in one place.
func TestP35Covers(t *testing.T) {
	lazy := examples()
	lazy.Carts[1].Until = 0
	for i, x := range []struct {
		d    round.Day
		bins []int
		plan [][]int
		is   bool
	}{
		{examples(), list(0, 1, 2), [][]int{{0, 1}, {2}}, true},
		{examples(), list(0, 1, 2), [][]int{{1, 0}, {2}}, true},
		{examples(), list(0, 1, 2), [][]int{{2, 1}, {0}}, true},
		{examples(), list(0, 1, 2), [][]int{{2}, {0, 1}}, false},
		{examples(), list(0, 1, 2), [][]int{{0, 1, 2}, nil}, false},
		{examples(), list(0, 1), [][]int{{0, 1}, {}}, true},
		{examples(), list(0, 1), [][]int{nil, {0, 1}}, false},
		{examples(), list(0, 1), [][]int{{0, 1}}, false},
		{examples(), list(0, 1), [][]int{{0, 1}, nil, nil}, false},
		{examples(), list(0, 1), [][]int{{0}, nil}, false},
		{examples(), list(0, 1), [][]int{{0}, {2}}, false},
		{examples(), list(0, 1), [][]int{{0, 1}, {1}}, false},
		{examples(), list(0, 1), [][]int{{0, 0}, nil}, false},
		{examples(), list(0, 1), [][]int{{0, 1, 0}, nil}, false},
		{examples(), list(0, 1), [][]int{{0, 1}, {2}}, false},
		{examples(), list(0, 1), [][]int{{0, 1, 5}, nil}, false},
		{examples(), list(0, 1), [][]int{{0, -1}, nil}, false},
		{examples(), list(0, 1), [][]int{{0, 64}, nil}, false},
		{examples(), list(0), [][]int{{3}, nil}, false},
		{examples(), list(0, 1), nil, false},
		{examples(), nil, [][]int{nil, {}}, true},
		{examples(), nil, [][]int{nil, {0}}, false},
		{lazy, list(0, 1), [][]int{{0, 1}, nil}, true},
		{lazy, list(0, 1), [][]int{{0}, {1}}, false},
		{round.Day{Town: row(2)}, nil, nil, true},
		{round.Day{Town: row(2)}, nil, [][]int{nil}, false},
	} {
		if is, e := round.Covers(x.d, x.bins, x.plan); is != x.is || e != api.OK {
			t.Error(i, is, e)
		}
	}
}

// TestP35CoversBrute asks of lists that are nearly plans.
func TestP35CoversBrute(t *testing.T) {
	l := &luck{8}
	var count [2]int
	for range 2000 {
		d := l.day(4, 200)
		bins := l.some(d)
		plan := make([][]int, len(d.Carts))
		for _, bin := range bins {
			if len(plan) > 0 && l.below(20) > 0 {
				cart := l.below(len(plan))
				plan[cart] = append(plan[cart], bin)
			}
		}
		want := isPlan(d, bins, plan)
		is, e := round.Covers(d, bins, plan)
		if is != want || e != api.OK {
			t.Fatal(d, bins, plan, is, e)
		}
		if is && len(bins) > 0 {
			count[0]++
		} else {
			count[1]++
		}
	}
	if count[0] < 100 || count[1] < 100 {
		t.Error("plans, and other lists:", count)
	}
}

// TestP35Weekly: the chapter's example, days without bins, and days without a plan.
func TestP35Weekly(t *testing.T) {
	for i, x := range []struct {
		change func(d *round.Day)
		want   []int
	}{
		{func(d *round.Day) {}, list(1, 0, 0, 1, 0, 0, 0)},
		{func(d *round.Day) { d.Carts = d.Carts[1:] }, list(None, 0, 0, None, 0, 0, 0)},
		{func(d *round.Day) { d.Carts = nil }, list(None, 0, 0, None, 0, 0, 0)},
		{func(d *round.Day) { d.Bins = nil }, list(0, 0, 0, 0, 0, 0, 0)},
		{func(d *round.Day) { d.Bins[2].Days = list(0, 1, 6) }, list(2, 1, 0, 1, 0, 0, 1)},
	} {
		d := examples()
		x.change(&d)
		if week, e := round.Weekly(d); !slices.Equal(week, x.want) || e != api.OK {
			t.Error(i, week, e)
		}
	}
}

// TestP35Brute gives each bin to each cart, in any order, on any day.
func TestP35Brute(t *testing.T) {
	l := &luck{9}
	var count [round.MaxCarts + 1]int
	for range 500 {
		d := l.day(4, 300)
		if l.below(2) == 0 {
			d = l.busy()
		}
		bins := l.some(d)
		can := powers(d, bins)
		want := fewest(bins, can)
		plan, many, e := round.Fewest(d, bins)
		spare, f := round.Spare(d, bins)
		if want == None {
			if e != api.ErrNone || plan != nil || many != 0 || f != api.ErrNone || spare != nil {
				t.Fatal(d, bins, plan, many, e, spare, f)
			}
			continue
		}
		count[want]++
		if e != api.OK || many != want || uses(plan) != want || !isPlan(d, bins, plan) {
			t.Fatal(d, bins, plan, many, e, want)
		}
		if is, e := round.Covers(d, bins, plan); !is || e != api.OK {
			t.Fatal(d, bins, plan, is, e)
		}
		var left []int
		for cart := range d.Carts {
			if fewest(bins, slices.Concat(can[:cart], can[cart+1:])) != None {
				left = append(left, cart)
			}
		}
		if f != api.OK || !slices.Equal(spare, left) {
			t.Fatal(d, bins, spare, f, left)
		}
	}
	for many, days := range count {
		if days < 5 {
			t.Error("days that ask for", many, "carts are", days)
		}
	}
}

// TestP35WeeklyBrute: each day of the week asks for as many carts as the bins that are due then.
func TestP35WeeklyBrute(t *testing.T) {
	l := &luck{10}
	for range 60 {
		d := l.day(4, 300)
		week, e := round.Weekly(d)
		noError(t, e)
		if len(week) != round.Week {
			t.Fatal(d, week)
		}
		for weekday := range round.Week {
			var due []int
			for bin, b := range d.Bins {
				if slices.Contains(b.Days, weekday) {
					due = append(due, bin)
				}
			}
			if want := fewest(due, powers(d, due)); week[weekday] != want {
				t.Fatal(d, week, weekday, want)
			}
		}
	}
}
