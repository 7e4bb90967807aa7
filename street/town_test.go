package street_test

import (
	"math"
	"slices"
	"testing"

	"laystall/api"
	"laystall/street"
)

// TestP11StreetsAtTheirLimits: each number of a street at its limits, and one beyond.
func TestP11StreetsAtTheirLimits(t *testing.T) {
	for _, x := range []struct {
		name   string
		lo, hi int
		e      api.Errno
		set    func(s *street.Street, n int)
	}{
		{"From", 0, 3, api.ErrNoSuch, func(s *street.Street, n int) { s.From = n }},
		{"Minutes", 1, 30, api.ErrRange, func(s *street.Street, n int) { s.Minutes = n }},
		{"Up", 0, 3, api.ErrRange, func(s *street.Street, n int) { s.Up = n }},
		{"Wide", 1, 9, api.ErrRange, func(s *street.Street, n int) { s.Wide = n }},
		{"Bears", 0, 9, api.ErrRange, func(s *street.Street, n int) { s.Bears = n }},
		{"Shut.Lo", 0, 239, api.ErrRange, func(s *street.Street, n int) { s.Shut.Lo = n }},
		{"Shut.Hi", 0, 239, api.ErrRange, func(s *street.Street, n int) { s.Shut.Hi = n }},
	} {
		for _, n := range []int{math.MinInt, x.lo - 1, x.lo, x.hi, x.hi + 1, math.MaxInt} {
			town := examples()
			x.set(&town.Streets[1], n)
			want := api.OK
			if n < x.lo || n > x.hi {
				want = x.e
			}
			if e := street.Check(town); e != want {
				t.Error(x.name, n, e)
			}
		}
	}
}

// TestP11Towns: how many corners and streets there can be, and where streets lead.
func TestP11Towns(t *testing.T) {
	streets := func(n int) []street.Street { return slices.Repeat([]street.Street{plain(0, 1, 1)}, n) }
	for i, x := range []struct {
		town street.Town
		e    api.Errno
	}{
		{street.Town{}, api.ErrRange},
		{street.Town{Corners: -1}, api.ErrRange},
		{street.Town{Corners: 1}, api.OK},
		{street.Town{Corners: 8, Streets: []street.Street{}}, api.OK},
		{street.Town{Corners: 9}, api.ErrRange},
		{street.Town{Corners: 2, Streets: streets(16)}, api.OK},
		{street.Town{Corners: 2, Streets: streets(17)}, api.ErrCount},
		{street.Town{Corners: 9, Streets: streets(17)}, api.ErrRange},
		{street.Town{Corners: 1, Streets: streets(1)}, api.ErrNoSuch},
		{street.Town{Corners: 2, Streets: []street.Street{plain(1, 1, 1)}}, api.ErrNoSuch},
		{street.Town{Corners: 2, Streets: []street.Street{plain(0, 2, 1)}}, api.ErrNoSuch},
		{street.Town{Corners: 2, Streets: []street.Street{plain(0, -1, 1)}}, api.ErrNoSuch},
		{street.Town{Corners: 2, Streets: []street.Street{plain(0, 1, 31), plain(0, 0, 1)}}, api.ErrNoSuch},
		{street.Town{Corners: 2, Streets: []street.Street{plain(0, 1, 30), plain(1, 0, 31)}}, api.ErrRange},
	} {
		if e := street.Check(x.town); e != x.e {
			t.Error(i, e)
		}
	}
}

// TestP11Mirror: all of a town is mirrored, and twice mirrored it is itself.
func TestP11Mirror(t *testing.T) {
	town := examples()
	m, e := street.Mirror(town)
	want := []street.Street{
		{From: 1, To: 0, Minutes: 5, Up: 2, Wide: 4, Bears: 9, Back: true, Shut: api.Span{Lo: 239, Hi: 238}},
		{From: 2, To: 1, Minutes: 4, Wide: 9, Bears: 3, Shut: api.Span{Lo: 239, Hi: 238}},
		{From: 2, To: 0, Minutes: 20, Wide: 9, Bears: 9, Back: true, Shut: api.Span{Lo: 239, Hi: 238}},
		{From: 3, To: 2, Minutes: 3, Wide: 9, Bears: 9, Back: true, Shut: api.Span{Lo: 220, Hi: 229}},
	}
	if e != api.OK || m.Corners != 4 || !slices.Equal(m.Streets, want) {
		t.Error(m, e)
	}
	if !slices.Equal(town.Streets, examples().Streets) {
		t.Error("the argument was changed")
	}
	twice, e := street.Mirror(m)
	if e != api.OK || twice.Corners != 4 || !slices.Equal(twice.Streets, town.Streets) {
		t.Error(twice, e)
	}
}

// TestP12Pass: the laws, the load, the closing and the end of the day, at their edges.
func TestP12Pass(t *testing.T) {
	shut := func(lo, hi int) street.Town {
		s := plain(0, 1, 10)
		s.Shut = api.Span{Lo: lo, Hi: hi}
		return pair(s)
	}
	steep := pair(street.Street{Minutes: 30, Up: 3, Wide: 5, Bears: 9, Back: true, Shut: never()})
	weak := pair(street.Street{Minutes: 1, Wide: 5, Bears: 4, Shut: never()})
	for i, x := range []struct {
		town street.Town
		c    street.Cart
		leg  street.Leg
		at   int
		want int
		e    api.Errno
	}{
		{steep, cart(5, 0), forth(0), 0, 30, api.OK},
		{steep, cart(5, 1), forth(0), 0, 33, api.OK},
		{steep, cart(5, 9), forth(0), 0, 57, api.OK},
		{steep, cart(5, 9), back(0), 0, 30, api.OK},
		{steep, cart(5, 9), forth(0), 183, 240, api.OK},
		{steep, cart(5, 9), forth(0), 184, 0, api.ErrNone},
		{steep, cart(5, 9), back(0), 210, 240, api.OK},
		{steep, cart(5, 9), back(0), 211, 0, api.ErrNone},
		{steep, cart(6, 0), forth(0), 0, 0, api.ErrNone},
		{steep, cart(6, 0), back(0), 0, 0, api.ErrNone},
		{weak, cart(5, 4), forth(0), 239, 240, api.OK},
		{weak, cart(5, 4), forth(0), 240, 0, api.ErrNone},
		{weak, cart(5, 5), forth(0), 0, 0, api.ErrNone},
		{weak, cart(5, 4), back(0), 0, 0, api.ErrNone},
		{shut(50, 60), cart(1, 0), forth(0), 40, 50, api.OK},
		{shut(50, 60), cart(1, 0), forth(0), 41, 71, api.OK},
		{shut(50, 60), cart(1, 0), back(0), 41, 71, api.OK},
		{shut(50, 60), cart(1, 0), forth(0), 60, 71, api.OK},
		{shut(50, 60), cart(1, 0), forth(0), 61, 71, api.OK},
		{shut(50, 60), cart(1, 0), forth(0), 62, 72, api.OK},
		{shut(50, 50), cart(1, 0), forth(0), 41, 61, api.OK},
		{shut(5, 4), cart(1, 0), forth(0), 0, 10, api.OK}, // without minutes, though the cart uses 4 and 5
		{shut(0, 0), cart(1, 0), forth(0), 0, 11, api.OK},
		{shut(0, 239), cart(1, 0), forth(0), 0, 0, api.ErrNone},
		{shut(0, 229), cart(1, 0), forth(0), 0, 240, api.OK},
		{shut(0, 230), cart(1, 0), forth(0), 0, 0, api.ErrNone},
		{shut(239, 239), cart(1, 0), forth(0), 229, 239, api.OK},
		{shut(239, 239), cart(1, 0), forth(0), 230, 0, api.ErrNone},
	} {
		if n, e := street.Pass(x.town, x.c, x.leg, x.at); n != x.want || e != x.e {
			t.Error(i, n, e)
		}
	}
}
