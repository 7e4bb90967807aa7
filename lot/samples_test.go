package lot_test

import (
	"math"
	"testing"

	"laystall/api"
	"laystall/lot"
)

// paysOf returns from how much to how much plans bring at most after a sample, whatever is found.
func paysOf(s lot.Store, picking, opened int) api.Span {
	least, most := math.MaxInt, math.MinInt
	for found := range opened + 1 {
		o := copyOf(s)
		o.Pickings[picking].Opened += opened
		o.Pickings[picking].Found += found
		if f := foulOf(o.Pickings[picking]); f.Lo <= f.Hi {
			n := bestOf(o)
			least, most = min(least, n), max(most, n)
		}
	}
	return span(least, most)
}

// TestP66Examples: the chapter's example, samples of the other pickings, and sacks that cannot be opened.
func TestP66Examples(t *testing.T) {
	for _, x := range []struct {
		picking, opened int
		want            api.Span
		e               api.Errno
	}{
		{1, 4, span(60, 69), api.OK},
		{1, 0, point(60), api.OK},
		{0, 0, point(60), api.OK},
		{2, 1, point(60), api.OK},
		{0, 5, empty(), api.ErrRange},
		{0, -1, empty(), api.ErrRange},
		{1, 5, empty(), api.ErrRange},
		{2, 2, empty(), api.ErrRange},
		{2, math.MaxInt, empty(), api.ErrRange},
		{2, math.MinInt, empty(), api.ErrRange},
		{3, 0, empty(), api.ErrNoSuch},
		{-1, -1, empty(), api.ErrNoSuch},
		{math.MaxInt, 0, empty(), api.ErrNoSuch},
	} {
		if got, e := lot.Pays(examples(), x.picking, x.opened); got != x.want || e != x.e {
			t.Error(x, got, e)
		}
	}
	spoiled := examples()
	spoiled.Lots = 0
	if got, e := lot.Pays(spoiled, 1, 4); got != empty() || e != api.OK {
		t.Error(got, e)
	}
}

// TestP66Found: what cannot be found does not count.
func TestP66Found(t *testing.T) {
	// At most one sack is foul: with two of them foul nothing could be sold at all.
	s := lot.Store{Pickings: []lot.Picking{{Sacks: 4, Worst: 1}}, Grades: []lot.Grade{{0, 10}, {25, 5}}, Lots: 1}
	for opened, want := range []api.Span{point(20), point(20), point(20), point(20), span(20, 40)} {
		if got, e := lot.Pays(s, 0, opened); got != want || e != api.OK {
			t.Error(opened, got, e)
		}
	}
}

// TestP66Pays opens all numbers of sacks of all pickings of stores.
func TestP66Pays(t *testing.T) {
	l := &luck{12}
	wide := 0
	for i := range 300 {
		s := l.store([]size{middle(), small(), large()}[i%3])
		for picking, p := range s.Pickings {
			if len(s.Pickings) == lot.MaxPickings && picking > 0 {
				break
			}
			for opened := range p.Sacks - p.Opened + 1 {
				want := paysOf(s, picking, opened)
				if got, e := lot.Pays(s, picking, opened); got != want || e != api.OK {
					t.Fatal(s, picking, opened, got, want, e)
				}
				wide += count(want.Lo < want.Hi)
			}
		}
	}
	if wide < 50 {
		t.Error("samples that can bring more or less:", wide)
	}
}
