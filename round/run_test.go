package round_test

import (
	"slices"
	"testing"

	"laystall/api"
	"laystall/round"
	"laystall/street"
)

// TestP32Outcomes: each way in which a round ends, at a bin and at the tip, and what is told of it.
func TestP32Outcomes(t *testing.T) {
	for i, x := range []struct {
		change   func(d *round.Day)
		bins     []int
		contents []int
		want     round.Outcome
	}{
		// The chapter's examples: a load makes the street slower, from one hundredweight to the next.
		{nil, list(2, 0, 1), list(250, 300, 200), out(round.Full, 1, 32, 450)},
		{nil, list(2, 0, 1), list(250, 250, 200), out(round.Done, None, 37, 700)},
		{nil, list(0, 1), list(250, 300, 200), out(round.Done, None, 30, 550)},
		{nil, nil, list(250, 300, 200), out(round.Done, None, 20, 0)},
		{func(d *round.Day) { d.Bins[2].Holds.Hi = 201 }, list(2), list(250, 300, 201), out(round.Done, None, 28, 201)},
		{func(d *round.Day) { d.Bins[2].Holds.Lo = 0 }, list(2), list(250, 300, 1), out(round.Done, None, 26, 1)},
		{func(d *round.Day) { d.Bins[2].Holds.Lo = 0 }, list(2), list(250, 300, 0), out(round.Done, None, 25, 0)},
		// Full and Tired are asked at the bin, Full first; both allow just as much as there is.
		{func(d *round.Day) { d.Carts[0].Lifts = 550 }, list(0, 1), list(250, 300, 200), out(round.Done, None, 30, 550)},
		{func(d *round.Day) { d.Carts[0].Lifts = 549 }, list(0, 1), list(250, 300, 200), out(round.Tired, 1, 25, 250)},
		{func(d *round.Day) { d.Carts[0].Holds = 550 }, list(0, 1), list(250, 300, 200), out(round.Done, None, 30, 550)},
		{func(d *round.Day) { d.Carts[0].Holds = 549 }, list(0, 1), list(250, 300, 200), out(round.Full, 1, 25, 250)},
		{func(d *round.Day) { d.Carts[0].Holds, d.Carts[0].Lifts = 99, 99 }, list(0, 1), list(100, 300, 200), out(round.Full, 0, 10, 0)},
		{func(d *round.Day) { d.Carts[0].Lifts = 0 }, list(1, 0), list(100, 300, 200), out(round.Tired, 1, 20, 0)},
		// Late at the tip: Until includes its minute.
		{func(d *round.Day) { d.Carts[0].Until = 30 }, list(0, 1), list(100, 50, 200), out(round.Done, None, 30, 150)},
		{func(d *round.Day) { d.Carts[0].Until = 29 }, list(0, 1), list(100, 50, 200), out(round.Late, None, 30, 150)},
		{func(d *round.Day) { d.Carts[0].Until = 29 }, list(1, 0), list(100, 50, 200), out(round.Late, None, 40, 150)},
		{func(d *round.Day) { d.Carts[0].Until = 19 }, nil, list(100, 50, 200), out(round.Late, None, 0, 0)},
		{func(d *round.Day) { d.Tip, d.Carts[0].Start = 0, 60 }, nil, list(100, 50, 200), out(round.Done, None, 60, 0)},
		{func(d *round.Day) { d.Tip, d.Carts[0].Start = 0, 61 }, nil, list(100, 50, 200), out(round.Late, None, 61, 0)},
		// Late at a bin comes before Full: the day is over, or no street is wide enough.
		{func(d *round.Day) { d.Carts[0].Start, d.Carts[0].Holds = 231, 0 }, list(0), list(100, 50, 200), out(round.Late, 0, 231, 0)},
		{func(d *round.Day) { d.Carts[0].Start, d.Carts[0].Holds = 230, 0 }, list(0), list(100, 50, 200), out(round.Full, 0, 240, 0)},
		{func(d *round.Day) { d.Town.Streets[1].Wide = 2 }, list(0, 1), list(100, 50, 200), out(round.Late, 1, 15, 100)},
		{func(d *round.Day) { d.Town.Streets[1].Bears = 1 }, list(0, 1), list(101, 50, 200), out(round.Late, 1, 15, 101)},
		{func(d *round.Day) { d.Town.Streets[1].Bears = 1 }, list(0, 1), list(100, 50, 200), out(round.Done, None, 30, 150)},
		{func(d *round.Day) { d.Town.Streets[1].Shut = span(20, 29) }, list(0, 1), list(100, 50, 200), out(round.Done, None, 45, 150)},
		// To empty a bin takes until the end of the day, or behind it; then the cart is late even where it is.
		{func(d *round.Day) { d.Carts[0].Start, d.Bins[2].Minutes = 225, 15 }, list(2), list(100, 50, 200), out(round.Late, None, 240, 200)},
		{func(d *round.Day) {
			d.Carts[0] = round.Cart{Wide: 3, Holds: 700, Lifts: 700, Start: 225, Until: 240}
			d.Tip = 0
			d.Bins[2].Minutes = 15
		}, list(2), list(100, 50, 200), out(round.Done, None, 240, 200)},
		{func(d *round.Day) {
			d.Carts[0] = round.Cart{Wide: 3, Holds: 700, Lifts: 700, Start: 226, Until: 240}
			d.Tip = 0
			d.Bins[2].Minutes = 15
		}, list(2), list(100, 50, 200), out(round.Late, None, 241, 200)},
		{func(d *round.Day) { d.Carts[0].Start, d.Bins[2].Minutes, d.Bins[0].Corner = 226, 15, 0 }, list(2, 0, 1), list(100, 50, 200), out(round.Late, 0, 241, 200)},
	} {
		d := examples()
		if x.change != nil {
			x.change(&d)
		}
		if got, e := round.Run(d, 0, x.bins, x.contents); got != x.want || e != api.OK {
			t.Error(i, got, e)
		}
	}
}

// TestP32Worst: the outcome with the greatest contents, and whether the round is safe.
func TestP32Worst(t *testing.T) {
	for i, x := range []struct {
		cart int
		bins []int
		want round.Outcome
	}{
		{0, list(2, 0, 1), out(round.Full, 1, 32, 450)},
		{0, list(0, 1), out(round.Done, None, 30, 550)},
		{1, list(0, 1), out(round.Full, 1, 25, 250)},
		{1, list(2, 0), out(round.Full, 0, 17, 200)},
		{1, list(1), out(round.Done, None, 25, 300)},
		{1, nil, out(round.Done, None, 20, 0)},
	} {
		got, e := round.Worst(examples(), x.cart, x.bins)
		is, f := round.Safe(examples(), x.cart, x.bins)
		if got != x.want || is != (x.want.Kind == round.Done) || e != api.OK || f != api.OK {
			t.Error(i, got, is, e, f)
		}
	}
}

// TestP32Left: what is left of the chapter's round minute by minute, and behind the end of the day.
func TestP32Left(t *testing.T) {
	for i, x := range []struct {
		contents []int
		at       int
		want     []int
	}{
		{list(250, 300, 200), 0, list(2, 0, 1)},
		{list(250, 300, 200), 4, list(2, 0, 1)},
		{list(250, 300, 200), 5, list(0, 1)},
		{list(250, 300, 200), 21, list(0, 1)},
		{list(250, 300, 200), 22, list(1)},
		{list(250, 300, 200), 240, list(1)},
		{list(250, 250, 200), 36, list(1)},
		{list(250, 250, 200), 37, nil},
		{list(250, 250, 200), 240, nil},
	} {
		if bins, e := round.Left(examples(), 0, list(2, 0, 1), x.contents, x.at); !slices.Equal(bins, x.want) || e != api.OK {
			t.Error(i, bins, e)
		}
	}
	late := examples()
	late.Carts[0].Start, late.Bins[0].Minutes = 220, 15
	if bins, e := round.Left(late, 0, list(0), list(100, 50, 200), 240); !slices.Equal(bins, list(0)) || e != api.OK {
		t.Error("a bin that is emptied behind the end of the day:", bins, e)
	}
	late.Bins[0].Minutes = 10
	if bins, e := round.Left(late, 0, list(0), list(100, 50, 200), 240); len(bins) != 0 || e != api.OK {
		t.Error("a bin that is emptied at the end of the day, by a cart that is late for the tip:", bins, e)
	}
	for _, at := range list(-1, 241) {
		if bins, e := round.Left(examples(), 0, list(0), list(100, 50, 200), at); bins != nil || e != api.ErrRange {
			t.Error(at, bins, e)
		}
	}
}

// TestP32Brute holds rounds of any day against the words of the chapter; all kinds of ends are among them.
func TestP32Brute(t *testing.T) {
	l := &luck{2}
	var ends [round.Tired + 1]int
	for range 2000 {
		d := l.day(6, 400)
		bins, contents := l.order(d), l.contents(d)
		for cart := range d.Carts {
			if l.below(3) == 0 {
				l.near(&d.Carts[cart], total(contents, bins))
			}
			want, ready := told(d, cart, bins, contents)
			ends[want.Kind]++
			got, e := round.Run(d, cart, bins, contents)
			worst, f := round.Worst(d, cart, bins)
			safe, g := round.Safe(d, cart, bins)
			noError(t, e, f, g)
			wantWorst, _ := told(d, cart, bins, most(d, 0))
			if got != want || worst != wantWorst || safe != (wantWorst.Kind == round.Done) {
				t.Fatal(d, cart, bins, contents, got, want, worst, wantWorst, safe)
			}
			for _, at := range list(0, l.below(241), street.MaxDay) {
				left, e := round.Left(d, cart, bins, contents, at)
				noError(t, e)
				var still []int
				for i, bin := range bins {
					if i >= len(ready) || ready[i] > at {
						still = append(still, bin)
					}
				}
				if !slices.Equal(left, still) {
					t.Fatal(d, cart, bins, contents, at, left, still)
				}
			}
		}
	}
	for kind, count := range ends {
		if count < 100 {
			t.Error("rounds of kind", kind, "are", count)
		}
	}
}
