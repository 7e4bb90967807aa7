package street_test

import (
	"slices"
	"testing"

	"laystall/api"
	"laystall/street"
)

// TestP13Examples: the tables of the chapter's examples 2 to 4.
func TestP13Examples(t *testing.T) {
	for i, x := range []struct {
		c        street.Cart
		from, at int
		want     []int
	}{
		{cart(3, 0), 0, 0, []int{0, 5, 9, 23}},
		{cart(3, 0), 0, 15, []int{15, 20, 24, 27}},
		{cart(3, 2), 0, 0, []int{0, 9, 13, 23}},
		{cart(3, 4), 0, 0, []int{0, 13, 20, 23}},
		{cart(5, 0), 0, 0, []int{0, -1, 20, 23}},
		{cart(3, 0), 0, 240, []int{240, -1, -1, -1}},
	} {
		if l, e := street.Earliest(examples(), x.c, x.from, x.at); !slices.Equal(l, x.want) || e != api.OK {
			t.Error(i, l, e)
		}
	}
	for i, x := range []struct {
		to, by int
		want   []int
	}{
		{3, 30, []int{18, 23, 27, 30}},
		{3, 15, []int{-1, 3, 7, 15}},
		{3, 0, []int{-1, -1, -1, 0}},
	} {
		if l, e := street.Latest(examples(), cart(3, 0), x.to, x.by); !slices.Equal(l, x.want) || e != api.OK {
			t.Error(i, l, e)
		}
	}
	if l, e := street.Earliest(street.Town{Corners: 1}, cart(1, 0), 0, 7); !slices.Equal(l, []int{7}) || e != api.OK {
		t.Error(l, e)
	}
}

// TestP13Latest: a street that is shut is left before it is, and one without minutes of closing never is shut.
func TestP13Latest(t *testing.T) {
	shut := func(lo, hi int) street.Town {
		return pair(street.Street{Minutes: 10, Up: 1, Wide: 9, Bears: 9, Back: true, Shut: api.Span{Lo: lo, Hi: hi}})
	}
	for i, x := range []struct {
		town          street.Town
		load, to, by  int
		want, earlier int
	}{
		{shut(50, 60), 0, 1, 50, 40, 50},
		{shut(50, 60), 0, 1, 51, 40, 51},
		{shut(50, 60), 0, 1, 70, 40, 70},
		{shut(50, 60), 0, 1, 71, 61, 71},
		{shut(50, 60), 5, 1, 75, 35, 75},
		{shut(50, 60), 5, 1, 76, 61, 76},
		{shut(5, 4), 0, 1, 10, 0, 10},
		{shut(0, 3), 0, 1, 13, -1, 13},
		{shut(0, 3), 0, 1, 14, 4, 14},
		{shut(9, 20), 0, 1, 25, -1, 25},
		{shut(239, 239), 0, 1, 240, 229, 240},
	} {
		l, e := street.Latest(x.town, cart(1, x.load), x.to, x.by)
		if !slices.Equal(l, []int{x.want, x.earlier}) || e != api.OK {
			t.Error(i, l, e)
		}
	}
	if l, e := street.Latest(shut(50, 60), cart(1, 5), 0, 75); !slices.Equal(l, []int{75, 65}) || e != api.OK {
		t.Error("back, a load counts for nothing:", l, e)
	}
}

// TestP13Spare: none without time, 0 where a cart must leave at once.
func TestP13Spare(t *testing.T) {
	for i, x := range []struct {
		c                      street.Cart
		from, to, at, by, want int
		e                      api.Errno
	}{
		{cart(3, 0), 0, 3, 0, 30, 18, api.OK},
		{cart(3, 0), 0, 3, 5, 30, 13, api.OK},
		{cart(3, 0), 0, 3, 18, 30, 0, api.OK},
		{cart(3, 0), 0, 3, 19, 30, 0, api.ErrNone},
		{cart(3, 0), 0, 3, 0, 15, 0, api.ErrNone},
		{cart(5, 0), 0, 1, 0, 240, 0, api.ErrNone},
		{cart(3, 0), 1, 1, 0, 240, 240, api.OK},
		{cart(3, 0), 1, 1, 5, 4, 0, api.ErrNone},
	} {
		if n, e := street.Spare(examples(), x.c, x.from, x.to, x.at, x.by); n != x.want || e != x.e {
			t.Error(i, n, e)
		}
	}
}

// TestP13Brute holds the tables of many towns against what carts do minute by minute.
func TestP13Brute(t *testing.T) {
	l := &luck{1}
	for range 400 {
		town, c := l.town(), l.cart()
		from, to, at, by := l.below(town.Corners), l.below(town.Corners), l.below(241), l.below(241)
		w := world{town, c}
		early, e := street.Earliest(town, c, from, at)
		noError(t, e)
		if want := w.earliest(from, at); !slices.Equal(early, want) {
			t.Fatal("earliest", town, c, from, at, early, want)
		}
		late, e := street.Latest(town, c, to, by)
		noError(t, e)
		want := w.latest(to, by)
		if !slices.Equal(late, want) {
			t.Fatal("latest", town, c, to, by, late, want)
		}
		spare, e := street.Spare(town, c, from, to, at, by)
		if in := early[to] != street.None && early[to] <= by; in != (e == api.OK) {
			t.Fatal("spare", town, c, from, to, at, by, spare, e)
		}
		if e == api.OK && spare != want[from]-at {
			t.Fatal("spare", town, c, from, to, at, by, spare)
		}
	}
}
