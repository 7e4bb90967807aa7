package round_test

import (
	"slices"
	"testing"

	"laystall/api"
	"laystall/round"
	"laystall/street"
)

// TestP34Order: the chapter's examples, carts without bins, and bins that only one order empties in time.
func TestP34Order(t *testing.T) {
	for i, x := range []struct {
		change func(d *round.Day)
		cart   int
		bins   []int
		order  []int // nil if any such one will do
		minute int
		e      api.Errno
	}{
		{nil, 0, list(0, 1), list(0, 1), 30, api.OK},
		{nil, 0, list(0, 2), list(2, 0), 32, api.OK},
		{nil, 0, list(1, 2), list(2, 1), 32, api.OK},
		{nil, 0, list(0, 1, 2), nil, 0, api.ErrNone},
		{nil, 0, nil, nil, 20, api.OK},
		{nil, 1, list(2), list(2), 27, api.OK},
		{nil, 1, list(0, 2), nil, 0, api.ErrNone},
		{func(d *round.Day) { d.Carts[0].Until = 32 }, 0, list(0, 2), list(2, 0), 32, api.OK},
		{func(d *round.Day) { d.Carts[0].Until = 31 }, 0, list(0, 2), nil, 0, api.ErrNone},
		{func(d *round.Day) { d.Carts[0].Until = 19 }, 0, nil, nil, 0, api.ErrNone},
		{func(d *round.Day) { d.Carts[0].Holds = 550 }, 0, list(0, 1), list(0, 1), 30, api.OK},
		{func(d *round.Day) { d.Carts[0].Holds = 549 }, 0, list(0, 1), nil, 0, api.ErrNone},
		{func(d *round.Day) { d.Carts[0].Lifts = 549 }, 0, list(0, 1), nil, 0, api.ErrNone},
		// The street to bin 1 does not bear what bin 0 holds: bin 1 must come first.
		{func(d *round.Day) { d.Town.Streets[1].Bears, d.Tip, d.Bins[1].Holds = 2, 0, span(0, 200) }, 0, list(0, 1), list(1, 0), 50, api.OK},
		// Back to the yard the load counts nothing, so that bin 2 comes last.
		{func(d *round.Day) { d.Tip = 0 }, 0, list(0, 2), list(0, 2), 30, api.OK},
		// The street to bin 1 is shut for long: the cart waits for it once, or has come back from there too late.
		{func(d *round.Day) { d.Town.Streets[1].Shut = span(20, 89); d.Carts[0].Until = 104 }, 0, list(0, 1), nil, 0, api.ErrNone},
		{func(d *round.Day) { d.Town.Streets[1].Shut = span(20, 89); d.Carts[0].Until = 105 }, 0, list(0, 1), list(0, 1), 105, api.OK},
	} {
		d := examples()
		if x.change != nil {
			x.change(&d)
		}
		order, minute, e := round.Order(d, x.cart, x.bins)
		if e != x.e || e != api.OK && (order != nil || minute != 0) {
			t.Error(i, order, minute, e)
		}
		if e == api.OK && (minute != x.minute || x.order != nil && !slices.Equal(order, x.order) || !orderOf(d, x.cart, x.bins, order, minute)) {
			t.Error(i, order, minute)
		}
	}
}

// orderOf reports whether a list is a safe round of just some bins that is at the tip at a minute.
func orderOf(d round.Day, cart int, bins, order []int, minute int) bool {
	end, _ := told(d, cart, order, most(d, 0))
	return slices.Equal(slices.Sorted(slices.Values(order)), bins) && end == out(round.Done, None, minute, total(most(d, 0), bins))
}

// TestP34Brute goes through all orders of the bins of any day.
func TestP34Brute(t *testing.T) {
	l := &luck{5}
	some := 0
	for range 1500 {
		d := l.day(4, 300)
		bins := l.some(d)
		for cart := range d.Carts {
			want := soonest(d, cart, bins)
			order, minute, e := round.Order(d, cart, bins)
			if want == None {
				if e != api.ErrNone || order != nil || minute != 0 {
					t.Fatal(d, cart, bins, order, minute, e)
				}
				continue
			}
			if e != api.OK || minute != want || !orderOf(d, cart, bins, order, minute) {
				t.Fatal(d, cart, bins, order, minute, e, want)
			}
			if len(bins) > 1 {
				some++
			}
		}
	}
	if some < 200 {
		t.Error("rounds of several bins:", some)
	}
}

// TestP34OrderOfAllBins: six bins, in a town whose streets are shut at different times.
func TestP34OrderOfAllBins(t *testing.T) {
	l := &luck{6}
	for range 5 {
		d := greatest()
		for i := range d.Town.Streets {
			d.Town.Streets[i].Shut = span(l.below(60), l.below(60))
		}
		bins := list(0, 1, 2, 3, 4, 5)
		order, minute, e := round.Order(d, 0, bins)
		if want := soonest(d, 0, bins); e != api.OK || minute != want || !orderOf(d, 0, bins, order, minute) {
			t.Fatal(d, order, minute, e, want)
		}
	}
}

// greatest is a day of the greatest size: a ring of corners, and streets across it.
func greatest() round.Day {
	d := round.Day{Town: street.Town{Corners: street.MaxCorners}, Tip: 4}
	for i := range street.MaxStreets {
		d.Town.Streets = append(d.Town.Streets, street.Street{From: i % 8, To: (i + 1 + i/8*2) % 8, Minutes: 3 + i%5, Up: i % 2, Wide: 9, Bears: 9, Back: true, Shut: span(1, 0)})
	}
	for i := range round.MaxBins {
		d.Bins = append(d.Bins, round.Bin{Corner: i + 1, Minutes: i, Holds: span(0, 140+i), Days: list(0, 1, 2, 3, 4, 5, 6)})
	}
	d.Carts = slices.Repeat([]round.Cart{{Wide: 9, Holds: round.MaxHolds, Lifts: round.MaxLifts, Until: street.MaxDay}}, round.MaxCarts)
	return d
}

// TestP34Hard: bins that are too heavy, too far, or nobody's.
func TestP34Hard(t *testing.T) {
	for i, x := range []struct {
		change func(d *round.Day)
		want   []int
	}{
		{func(d *round.Day) {}, nil},
		{func(d *round.Day) { d.Carts = nil }, list(0, 1, 2)},
		{func(d *round.Day) { d.Bins = nil }, nil},
		{func(d *round.Day) { d.Carts = d.Carts[1:]; d.Carts[0].Holds = 250 }, list(1)},
		{func(d *round.Day) { d.Carts = d.Carts[1:]; d.Carts[0].Holds = 249 }, list(0, 1)},
		{func(d *round.Day) { d.Carts[0].Until, d.Carts[1].Lifts = 26, 199 }, list(2)},
		{func(d *round.Day) { d.Carts[0].Until, d.Carts[1].Lifts = 24, 250 }, list(1)},
		{func(d *round.Day) { d.Carts[0].Until, d.Carts[1].Lifts = 24, 199 }, list(0, 1, 2)},
		{func(d *round.Day) { d.Town.Streets[1].Wide = 2 }, list(0, 1, 2)},
	} {
		d := examples()
		x.change(&d)
		if bins, e := round.Hard(d); !slices.Equal(bins, x.want) || e != api.OK {
			t.Error(i, bins, e)
		}
	}
	l := &luck{7}
	for range 500 {
		d := l.day(6, 400)
		var want []int
		for bin := range d.Bins {
			alone := true
			for cart := range d.Carts {
				alone = alone && !done(d, cart, list(bin), most(d, 0))
			}
			if alone {
				want = append(want, bin)
			}
		}
		if bins, e := round.Hard(d); !slices.Equal(bins, want) || e != api.OK {
			t.Fatal(d, bins, e, want)
		}
	}
}
