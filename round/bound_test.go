package round_test

import (
	"slices"
	"testing"

	"laystall/api"
	"laystall/round"
)

// TestP36Bound: the chapter's example, weights that ask for nothing, and weights of other bins.
func TestP36Bound(t *testing.T) {
	for i, x := range []struct {
		change        func(d *round.Day)
		bins, weights []int
		want          int
		e             api.Errno
	}{
		{nil, list(0, 1, 2), list(5, 6, 4), 2, api.OK},
		{nil, list(0, 1, 2), list(1, 1, 1), 2, api.OK},
		{nil, list(0, 1, 2), list(0, 0, 9), 1, api.OK},
		{nil, list(0, 1, 2), list(0, 0, 0), 0, api.OK},
		{nil, list(0, 1), list(5, 6, 100), 1, api.OK},
		{nil, nil, list(5, 6, 4), 0, api.OK},
		{nil, list(0, 1, 2), list(100, 100, 100), 2, api.OK},
		{func(d *round.Day) { d.Carts = d.Carts[1:] }, list(0, 1), list(1, 1, 0), 0, api.ErrNone},
		{func(d *round.Day) { d.Carts = d.Carts[1:] }, list(0, 1), list(1, 0, 0), 1, api.OK},
		{func(d *round.Day) { d.Carts = nil }, list(0), list(1, 0, 0), 0, api.ErrNone},
		{func(d *round.Day) { d.Carts = nil }, list(0), list(0, 1, 1), 0, api.OK},
		// The greatest most comes first, whichever cart it is that has it.
		{func(d *round.Day) { slices.Reverse(d.Carts) }, list(0, 1), list(5, 6, 0), 1, api.OK},
		{func(d *round.Day) { d.Carts[0].Until = 0 }, list(0, 1), list(5, 0, 0), 1, api.OK},
		{func(d *round.Day) { d.Carts = slices.Repeat(d.Carts[1:], 3) }, list(0, 1, 2), list(3, 3, 3), 3, api.OK},
		// Each most is of all bins: two carts can bring the same one.
		{func(d *round.Day) { d.Carts = slices.Repeat(d.Carts[1:], 3) }, list(0, 1, 2), list(9, 1, 1), 2, api.OK},
	} {
		d := examples()
		if x.change != nil {
			x.change(&d)
		}
		if n, e := round.Bound(d, x.bins, x.weights); n != x.want || e != x.e {
			t.Error(i, n, e)
		}
	}
}

// TestP36Brute: the most of each cart is that of all bins that it can empty, in any order.
func TestP36Brute(t *testing.T) {
	l := &luck{11}
	var count [round.MaxCarts + 2]int
	for range 1500 {
		d := l.day(4, 300)
		if l.below(2) == 0 {
			d = l.busy()
		}
		bins := l.some(d)
		var weights []int
		for range d.Bins {
			weights = append(weights, l.below(4)*l.below(31))
		}
		can := powers(d, bins)
		var mosts []int
		for cart := range d.Carts {
			best := 0
			for _, part := range choices(bins) {
				if can[cart][bits(part)] {
					best = max(best, total(weights, part))
				}
			}
			mosts = append(mosts, -best)
		}
		slices.Sort(mosts)
		want, left := 0, total(weights, bins)
		for left > 0 && want < len(mosts) {
			left += mosts[want]
			want++
		}
		n, e := round.Bound(d, bins, weights)
		if left > 0 {
			count[round.MaxCarts+1]++
			if n != 0 || e != api.ErrNone {
				t.Fatal(d, bins, weights, n, e)
			}
			continue
		}
		count[want]++
		if n != want || e != api.OK {
			t.Fatal(d, bins, weights, n, e, want)
		}
	}
	for many, days := range count {
		if days < 5 {
			t.Error("bounds of", many, "are", days)
		}
	}
}
