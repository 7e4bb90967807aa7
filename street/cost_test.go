package street_test

import (
	"slices"
	"testing"

	"laystall/api"
	"laystall/street"
)

// TestP17Heaviest: loads that make a cart late, loads that streets do not bear, and none.
func TestP17Heaviest(t *testing.T) {
	for i, x := range []struct {
		wide, from, to, at, by, want int
		e                            api.Errno
	}{
		{3, 0, 2, 0, 8, 0, api.ErrNone},
		{3, 0, 2, 0, 9, 0, api.OK},
		{3, 0, 2, 0, 10, 0, api.OK},
		{3, 0, 2, 0, 11, 1, api.OK},
		{3, 0, 2, 0, 15, 3, api.OK},
		{3, 0, 2, 0, 19, 3, api.OK},
		{3, 0, 2, 0, 20, 9, api.OK},
		{3, 1, 0, 0, 240, 9, api.OK},
		{5, 1, 0, 0, 240, 3, api.OK},
		{5, 0, 1, 0, 240, 0, api.ErrNone},
		{4, 0, 1, 222, 240, 6, api.OK},
		{9, 3, 3, 7, 7, 9, api.OK},
		{9, 3, 3, 7, 6, 0, api.ErrNone},
		{0, 3, 3, 7, 7, 0, api.ErrRange},
		{10, 3, 3, 7, 7, 0, api.ErrRange},
	} {
		if n, e := street.Heaviest(examples(), x.wide, x.from, x.to, x.at, x.by); n != x.want || e != x.e {
			t.Error(i, n, e)
		}
	}
}

// TestP17Later: a street that is missed, one that is not, and one without which there is no way.
func TestP17Later(t *testing.T) {
	for i, x := range []struct {
		c                    street.Cart
		from, to, at, street int
		want                 int
		e                    api.Errno
	}{
		{cart(3, 0), 0, 2, 0, 1, 11, api.OK},
		{cart(3, 0), 0, 2, 0, 0, 11, api.OK},
		{cart(3, 0), 0, 2, 0, 2, 0, api.OK},
		{cart(3, 0), 0, 2, 0, 3, 0, api.OK},
		{cart(3, 0), 0, 3, 0, 1, 0, api.OK}, // it waits for street 3 in either case
		{cart(3, 0), 0, 3, 0, 3, 0, api.ErrState},
		{cart(3, 0), 0, 2, 221, 1, 0, api.ErrState}, // the other way would take until behind the day
		{cart(3, 0), 0, 2, 220, 1, 11, api.OK},
		{cart(3, 0), 2, 2, 0, 2, 0, api.OK},
		{cart(5, 0), 0, 1, 0, 2, 0, api.ErrNone},
	} {
		if n, e := street.Later(examples(), x.c, x.from, x.to, x.at, x.street); n != x.want || e != x.e {
			t.Error(i, n, e)
		}
	}
}

// TestP17Brute holds both against what carts do minute by minute.
func TestP17Brute(t *testing.T) {
	l := &luck{6}
	for range 100 {
		town, c := l.town(), l.cart()
		from, to, at, by := l.below(town.Corners), l.below(town.Corners), l.below(150), 50+l.below(191)
		want := None
		for load := range street.MaxLoad + 1 {
			m := world{town, cart(c.Wide, load)}.earliest(from, at)[to]
			if m != None && m <= by {
				want = load
			}
		}
		n, e := street.Heaviest(town, c.Wide, from, to, at, by)
		if want == None && e != api.ErrNone || want != None && (n != want || e != api.OK) {
			t.Fatal("heaviest", town, c.Wide, from, to, at, by, n, e, want)
		}
		with := world{town, c}.earliest(from, at)[to]
		for i := range town.Streets {
			less := street.Town{Corners: town.Corners, Streets: slices.Concat(town.Streets[:i], town.Streets[i+1:])}
			alone := world{less, c}.earliest(from, at)[to]
			n, e := street.Later(town, c, from, to, at, i)
			switch {
			case with == None && e != api.ErrNone,
				with != None && alone == None && e != api.ErrState,
				with != None && alone != None && (e != api.OK || n != alone-with):
				t.Fatal("later", town, c, from, to, at, i, n, e, with, alone)
			}
		}
	}
}
