package street_test

import (
	"math"
	"testing"

	"laystall/api"
	"laystall/street"
)

// checkTour fails a test if a tour cannot be followed, or does not go through its streets and back.
func checkTour(t *testing.T, town street.Town, c street.Cart, from, at int, streets []int, legs []street.Leg, minute int) {
	t.Helper()
	corner, then, e := street.Follow(town, c, from, at, legs)
	is, f := street.Through(legs, streets)
	if corner != from || then != minute || e != api.OK || !is || f != api.OK || len(legs) > street.MaxLegs {
		t.Fatal(town, c, from, at, streets, legs, minute, corner, then, e, is, f)
	}
}

// TestP16Examples: tours of the chapter's example 5, through a street that is on the way, and through none.
func TestP16Examples(t *testing.T) {
	for i, x := range []struct {
		c        street.Cart
		from, at int
		streets  []int
		want     int
		e        api.Errno
	}{
		{cart(3, 0), 0, 0, []int{1, 2}, 29, api.OK},
		{cart(3, 0), 0, 0, []int{2, 1}, 29, api.OK},
		{cart(3, 0), 0, 0, []int{0, 1, 2}, 29, api.OK}, // street 0 is on the way
		{cart(3, 0), 0, 0, []int{1, 0}, 29, api.OK},
		{cart(3, 0), 0, 0, []int{3}, 46, api.OK},
		{cart(3, 0), 0, 0, []int{3, 2, 1, 0}, 46, api.OK},
		{cart(3, 0), 1, 17, nil, 17, api.OK},
		{cart(3, 0), 1, 17, []int{}, 17, api.OK},
		{cart(3, 1), 0, 0, []int{0}, 12, api.OK},
		{cart(3, 0), 0, 230, []int{0}, 240, api.OK},
		{cart(3, 0), 0, 231, []int{0}, 0, api.ErrNone},
		{cart(3, 4), 0, 0, []int{1}, 0, api.ErrNone},
		{cart(5, 0), 1, 0, []int{1}, 0, api.ErrNone}, // there is no way back
	} {
		legs, minute, e := street.Tour(examples(), x.c, x.from, x.at, x.streets)
		if minute != x.want || e != x.e || (e != api.OK || minute == x.at) && legs != nil {
			t.Error(i, legs, minute, e)
		}
		if e == api.OK {
			checkTour(t, examples(), x.c, x.from, x.at, x.streets, legs, minute)
		}
	}
}

// TestP16Long: six streets at the ends of a row of corners, each of which is a way of its own.
func TestP16Long(t *testing.T) {
	town := street.Town{Corners: 8}
	for i := range 7 {
		town.Streets = append(town.Streets, plain(i, i+1, 2))
	}
	for range 6 {
		town.Streets = append(town.Streets, plain(7, 0, 30))
	}
	streets := []int{7, 8, 9, 10, 11, 12}
	legs, minute, e := street.Tour(town, cart(1, 0), 0, 0, streets)
	if e != api.OK || minute != 180 {
		t.Fatal(legs, minute, e)
	}
	checkTour(t, town, cart(1, 0), 0, 0, streets, legs, minute)
	for i := range 6 { // one way: after each of them the cart goes all the row back
		town.Streets[7+i].Back = false
		town.Streets[7+i].Minutes = 20
	}
	legs, minute, e = street.Tour(town, cart(1, 0), 7, 0, streets)
	if e != api.OK || minute != 6*(20+14) || len(legs) != 48 {
		t.Fatal(legs, minute, e)
	}
	checkTour(t, town, cart(1, 0), 7, 0, streets, legs, minute)
	if _, _, e := street.Tour(town, cart(1, 0), 7, 0, append(streets, 0)); e != api.ErrCount {
		t.Error(e)
	}
}

// TestP16Brute holds tours against what carts do minute by minute.
func TestP16Brute(t *testing.T) {
	l := &luck{5}
	found := 0
	for range 150 {
		town, c := l.town(), street.Cart{Wide: 1 + l.below(2), Load: l.below(2)}
		from, at := l.below(town.Corners), l.below(60)
		var streets []int
		for i := range town.Streets {
			if l.below(3) == 0 && len(streets) < 4 {
				streets = append(streets, i)
			}
		}
		want, ok := world{town, c}.tour(from, at, streets)[[2]int{from, 1<<len(streets) - 1}]
		legs, minute, e := street.Tour(town, c, from, at, streets)
		if !ok {
			if e != api.ErrNone {
				t.Fatal(town, c, from, at, streets, legs, minute, e)
			}
			continue
		}
		if e != api.OK || minute != want {
			t.Fatal(town, c, from, at, streets, legs, minute, want, e)
		}
		checkTour(t, town, c, from, at, streets, legs, minute)
		if len(streets) > 0 {
			found++
		}
	}
	if found < 20 {
		t.Error("these tours show too little:", found)
	}
}

// TestP16Through: any numbers, each street in its place in the list, and both limits.
func TestP16Through(t *testing.T) {
	for i, x := range []struct {
		legs    []street.Leg
		streets []int
		is      bool
		e       api.Errno
	}{
		{nil, nil, true, api.OK},
		{nil, []int{0}, false, api.OK},
		{[]street.Leg{forth(0)}, nil, true, api.OK},
		{[]street.Leg{forth(1), back(2)}, []int{2, 1}, true, api.OK},
		{[]street.Leg{forth(1), back(2)}, []int{2, 2, 1, 1}, true, api.OK},
		{[]street.Leg{forth(1), back(2)}, []int{3, 1}, false, api.OK},
		{[]street.Leg{forth(1), back(2)}, []int{1, 3, 2}, false, api.OK},
		{[]street.Leg{forth(1), back(2)}, []int{1, 2, 3}, false, api.OK},
		{[]street.Leg{forth(math.MinInt), back(99)}, []int{99, math.MinInt}, true, api.OK},
		{make([]street.Leg, 60), make([]int, 6), true, api.OK},
		{make([]street.Leg, 61), nil, false, api.ErrCount},
		{make([]street.Leg, 1), make([]int, 7), false, api.ErrCount},
	} {
		if is, e := street.Through(x.legs, x.streets); is != x.is || e != x.e {
			t.Error(i, is, e)
		}
	}
}
