package street_test

import (
	"slices"
	"testing"

	"laystall/api"
	"laystall/street"
)

// TestP14Drive: fastest drives by the load, by the closing, to where the cart is, and none at all.
func TestP14Drive(t *testing.T) {
	for i, x := range []struct {
		c            street.Cart
		from, to, at int
		legs         []street.Leg
		minute       int
		e            api.Errno
	}{
		{cart(3, 0), 0, 2, 0, []street.Leg{forth(0), forth(1)}, 9, api.OK},
		{cart(3, 4), 0, 2, 0, []street.Leg{forth(2)}, 20, api.OK},
		{cart(3, 0), 2, 1, 0, []street.Leg{back(2), forth(0)}, 25, api.OK},
		{cart(3, 0), 3, 3, 240, nil, 240, api.OK},
		{cart(3, 0), 0, 3, 224, []street.Leg{forth(0), forth(1), forth(3)}, 236, api.OK},
		{cart(3, 0), 0, 3, 228, []street.Leg{forth(0), forth(1), forth(3)}, 240, api.OK},
		{cart(3, 0), 0, 3, 229, nil, 0, api.ErrNone},
		{cart(5, 0), 0, 1, 0, nil, 0, api.ErrNone},
	} {
		legs, minute, e := street.Drive(examples(), x.c, x.from, x.to, x.at)
		if !slices.Equal(legs, x.legs) || minute != x.minute || e != x.e {
			t.Error(i, legs, minute, e)
		}
	}
}

// TestP14Brute: a drive that is told can be followed, and ends as early as any.
func TestP14Brute(t *testing.T) {
	l := &luck{2}
	for range 300 {
		town, c := l.town(), l.cart()
		from, at := l.below(town.Corners), l.below(200)
		want := world{town, c}.earliest(from, at)
		for to := range town.Corners {
			legs, minute, e := street.Drive(town, c, from, to, at)
			if want[to] == street.None {
				if e != api.ErrNone || legs != nil || minute != 0 {
					t.Fatal(town, c, from, to, at, legs, minute, e)
				}
				continue
			}
			corner, then, f := street.Follow(town, c, from, at, legs)
			if e != api.OK || minute != want[to] || f != api.OK || corner != to || then != minute || len(legs) > street.MaxLegs {
				t.Fatal(town, c, from, to, at, legs, minute, e, corner, then, f)
			}
		}
	}
}

// TestP14Follow: legs are asked one by one, each for where it begins and then for whether it can be passed.
func TestP14Follow(t *testing.T) {
	turns := make([]street.Leg, 0, 60)
	for range 30 {
		turns = append(turns, forth(0), back(0))
	}
	town := examples()
	town.Streets[0].Minutes = 4
	for i, x := range []struct {
		c              street.Cart
		from, at       int
		legs           []street.Leg
		corner, minute int
		e              api.Errno
	}{
		{cart(3, 0), 2, 9, nil, 2, 9, api.OK},
		{cart(3, 0), 0, 0, turns, 0, 240, api.OK},
		{cart(3, 0), 0, 1, turns, 0, 0, api.ErrNone},
		{cart(3, 0), 0, 0, append(turns, forth(0)), 0, 0, api.ErrCount},
		{cart(3, 0), 0, 0, append(turns, forth(4)), 0, 0, api.ErrNoSuch},
		{cart(3, 1), 0, 7, []street.Leg{forth(0), back(0)}, 0, 17, api.OK},
		{cart(3, 0), 0, 0, []street.Leg{forth(2), forth(3), back(3), back(2), forth(0)}, 1, 50, api.OK},
		{cart(3, 0), 2, 8, []street.Leg{forth(3)}, 3, 23, api.OK},
		{cart(3, 0), 2, 0, []street.Leg{forth(1)}, 0, 0, api.ErrWrong},
		{cart(3, 0), 1, 0, []street.Leg{back(1)}, 0, 0, api.ErrWrong},
		{cart(3, 0), 2, 0, []street.Leg{back(1)}, 0, 0, api.ErrNone},
		{cart(3, 0), 2, 0, []street.Leg{back(1), forth(2)}, 0, 0, api.ErrNone},
		{cart(3, 0), 2, 0, []street.Leg{forth(2), back(1)}, 0, 0, api.ErrWrong},
		{cart(5, 0), 0, 0, []street.Leg{forth(0)}, 0, 0, api.ErrNone},
		{cart(5, 0), 2, 0, []street.Leg{forth(0)}, 0, 0, api.ErrWrong},
		{cart(3, 4), 1, 0, []street.Leg{forth(1)}, 0, 0, api.ErrNone},
		{cart(3, 0), 2, 0, []street.Leg{{Street: -1}}, 0, 0, api.ErrNoSuch},
	} {
		corner, minute, e := street.Follow(town, x.c, x.from, x.at, x.legs)
		if corner != x.corner || minute != x.minute || e != x.e {
			t.Error(i, corner, minute, e)
		}
	}
}
