package round_test

import (
	"slices"
	"testing"

	"laystall/api"
	"laystall/round"
)

// fullAt reports whether contents are of a day, and fill a cart at a bin of a round.
func fullAt(d round.Day, cart int, bins, contents []int, bin int) bool {
	if len(contents) != len(d.Bins) {
		return false
	}
	for i, b := range d.Bins {
		if contents[i] < b.Holds.Lo || contents[i] > b.Holds.Hi {
			return false
		}
	}
	i := slices.Index(bins, bin)
	return i >= 0 && total(contents, bins[:i]) <= d.Carts[cart].Holds && total(contents, bins[:i+1]) > d.Carts[cart].Holds
}

// filled asks for each bin of a day whether the cart can be full at it, and holds Fills and Filled against that.
func filled(t *testing.T, d round.Day, cart int, bins []int, can func(bin int) bool) {
	t.Helper()
	fills, e := round.Fills(d, cart, bins)
	noError(t, e)
	var want []int
	for _, bin := range bins {
		if can(bin) {
			want = append(want, bin)
		}
	}
	if !slices.Equal(fills, want) {
		t.Fatal(d, cart, bins, fills, want)
	}
	for bin := range d.Bins {
		contents, e := round.Filled(d, cart, bins, bin)
		if slices.Contains(want, bin) {
			if e != api.OK || !fullAt(d, cart, bins, contents, bin) {
				t.Fatal(d, cart, bins, bin, contents, e)
			}
		} else if e != api.ErrNone || contents != nil {
			t.Fatal(d, cart, bins, bin, contents, e)
		}
	}
}

// TestP33Fills: the chapter's examples, and carts whose minutes and crews would stop them before.
func TestP33Fills(t *testing.T) {
	early := examples()
	early.Carts[0].Until, early.Carts[0].Lifts, early.Carts[1].Start, early.Carts[1].Wide = 0, 0, 240, 9
	early.Town.Streets[1].Wide = 1
	for i, x := range []struct {
		cart  int
		bins  []int
		holds int
		fills []int
	}{
		{0, list(2, 0, 1), 700, list(1)},
		{0, list(2, 0, 1), 749, list(1)},
		{0, list(2, 0, 1), 750, nil},
		{0, list(0, 1), 700, nil},
		{0, list(0, 1), 549, list(1)},
		{0, list(0, 1), 550, nil},
		{1, list(0, 1), 400, list(1)},
		{1, list(2, 0), 400, list(0)},
		{1, list(2, 0, 1), 400, list(0, 1)},
		{1, list(2, 0, 1), 300, list(0, 1)}, // bin 0 can hold 100: the cart has 300 then
		{1, list(2, 0, 1), 299, list(0)},    // with the bins 2 and 0 it has 300 at least
		{1, list(2), 200, nil},
		{1, list(2), 199, list(2)},
		{1, list(1, 2, 0), 0, list(1)}, // bin 1 holds 50 at least
		{0, nil, 0, nil},
	} {
		for _, d := range []round.Day{examples(), early} {
			d.Carts = slices.Clone(d.Carts)
			d.Carts[x.cart].Holds = x.holds
			fills, e := round.Fills(d, x.cart, x.bins)
			if !slices.Equal(fills, x.fills) || e != api.OK {
				t.Error(i, fills, e)
			}
			filled(t, d, x.cart, x.bins, func(bin int) bool { return slices.Contains(x.fills, bin) })
		}
	}
}

// TestP33Filled: bins that do not exist, are not in the round, or hold nothing.
func TestP33Filled(t *testing.T) {
	empty := examples()
	empty.Bins[1].Holds = span(0, 0)
	empty.Carts[0].Holds = 0
	for i, x := range []struct {
		d    round.Day
		bins []int
		bin  int
		e    api.Errno
	}{
		{examples(), list(2, 0, 1), 1, api.OK},
		{examples(), list(2, 0, 1), 0, api.ErrNone},
		{examples(), list(2, 0), 1, api.ErrNone},
		{examples(), list(2, 0, 1), 3, api.ErrNoSuch},
		{examples(), list(2, 0, 1), -1, api.ErrNoSuch},
		{empty, list(1, 0), 1, api.ErrNone},
		{empty, list(1, 0), 0, api.OK},
		{empty, list(0, 1), 1, api.ErrNone},
	} {
		contents, e := round.Filled(x.d, 0, x.bins, x.bin)
		if e != x.e || (e == api.OK) != fullAt(x.d, 0, x.bins, contents, x.bin) {
			t.Error(i, contents, e)
		}
	}
}

// TestP33Brute goes through all contents of bins with narrow spans.
func TestP33Brute(t *testing.T) {
	l := &luck{3}
	some := 0
	for range 400 {
		d := l.day(4, 5)
		bins := l.order(d)
		for cart := range d.Carts {
			if len(bins) > 0 {
				l.near(&d.Carts[cart], total(l.contents(d), bins[:1+l.below(len(bins))]))
			}
			full := map[int]bool{}
			allContents(d, func(contents []int) {
				for _, bin := range bins {
					full[bin] = full[bin] || fullAt(d, cart, bins, contents, bin)
				}
			})
			for _, is := range full {
				if is {
					some++
				}
			}
			filled(t, d, cart, bins, func(bin int) bool { return full[bin] })
		}
	}
	if some < 300 {
		t.Error("bins at which a cart can be full:", some)
	}
}

// TestP33Margin: what a cart, a crew, a street or the hours leave room for.
func TestP33Margin(t *testing.T) {
	for i, x := range []struct {
		change func(d *round.Day)
		cart   int
		bins   []int
		want   int
		e      api.Errno
	}{
		{nil, 0, list(0, 1), 75, api.OK},
		{nil, 0, list(1), 400, api.OK},
		{nil, 0, nil, 400, api.OK},
		{nil, 1, list(2), 200, api.OK},
		{nil, 1, list(1), 100, api.OK},
		{nil, 0, list(2, 0, 1), 0, api.ErrNone},
		{nil, 1, list(0, 1), 0, api.ErrNone},
		{func(d *round.Day) { d.Carts[0].Holds = 699 }, 0, list(1), 399, api.OK},
		{func(d *round.Day) { d.Carts[0].Holds = 300 }, 0, list(1), 0, api.OK},
		{func(d *round.Day) { d.Carts[0].Holds = 299 }, 0, list(1), 0, api.ErrNone},
		{func(d *round.Day) { d.Carts[0].Holds = 900 }, 0, list(1), 400, api.OK},
		{func(d *round.Day) { d.Carts[0].Lifts = 552 }, 0, list(0, 1), 1, api.OK},
		{func(d *round.Day) { d.Town.Streets[1].Bears = 3 }, 0, list(0, 1), 50, api.OK},
		{func(d *round.Day) { d.Carts[0].Until = 28 }, 0, list(2), 100, api.OK},
		{func(d *round.Day) { d.Carts[0].Until = 27 }, 0, list(2), 0, api.OK},
		{func(d *round.Day) { d.Carts[0].Until = 26 }, 0, list(2), 0, api.ErrNone},
		{func(d *round.Day) { d.Carts[0].Until = 19 }, 0, nil, 0, api.ErrNone},
	} {
		d := examples()
		if x.change != nil {
			x.change(&d)
		}
		if n, e := round.Margin(d, x.cart, x.bins); n != x.want || e != x.e {
			t.Error(i, n, e)
		}
	}
}

// TestP33MarginBrute adds pound by pound to all bins.
func TestP33MarginBrute(t *testing.T) {
	l := &luck{4}
	some := 0
	for range 1000 {
		d := l.day(4, 400)
		bins := l.order(d)
		for cart := range d.Carts {
			want := None
			for want < round.MaxMore && done(d, cart, bins, most(d, want+1)) {
				want++
			}
			n, e := round.Margin(d, cart, bins)
			if want == None && (n != 0 || e != api.ErrNone) || want != None && (n != want || e != api.OK) {
				t.Fatal(d, cart, bins, n, e, want)
			}
			if want > 0 && want < round.MaxMore {
				some++
			}
		}
	}
	if some < 50 {
		t.Error("margins that are neither the least nor the greatest:", some)
	}
}
