package rat_test

import (
	"math"
	"slices"
	"testing"

	"laystall/api"
	"laystall/rat"
)

// TestP85Every asks all lists of houses by how many they are short, and for one that is.
func TestP85Every(t *testing.T) {
	l := &luck{11}
	clashes, none, nowhere := 0, 0, 0
	for i := range 700 {
		c := l.colony(sizes(i))
		w := ask(c)
		any := false
		for _, houses := range lists(len(c.Rooms)) {
			want, e := w.shortOf(houses), api.OK
			if want < 1 {
				want, e = 0, api.ErrWrong
			}
			if n, f := rat.Short(c, houses); n != want || f != e {
				t.Fatal(c, houses, n, want, e, f)
			}
			any = any || e == api.OK
			nowhere += count(len(houses) == 0 && e == api.OK)
		}
		houses, e := rat.Clash(c)
		switch {
		case !any && (houses != nil || e != api.ErrNone):
			t.Fatal(c, houses, e)
		case any && (e != api.OK || w.shortOf(houses) < 1):
			t.Fatal(c, houses, e)
		}
		for j, house := range houses {
			if j > 0 && house <= houses[j-1] || !has(span(0, len(c.Rooms)-1), house) {
				t.Fatal(c, houses)
			}
		}
		clashes += count(any)
		none += count(!any)
	}
	if clashes < 100 || none < 100 || nowhere < 20 {
		t.Error("colonies that clash, that do not, and with rats that have come from nowhere:", clashes, none, nowhere)
	}
}

// TestP85Edges asks of example 5, of rats that have come from nowhere, and of lists that are none.
func TestP85Edges(t *testing.T) {
	lost := examples()
	lost.Nights = [][]int{{2, 1, 0}, {0, 0, 1}}
	for i, x := range []struct {
		c      rat.Colony
		houses []int
		n      int
		e      api.Errno
	}{
		{tight(), list(0, 2), 4, api.OK},
		{tight(), list(0), 2, api.OK},
		{tight(), list(0, 1), 0, api.ErrWrong},
		{tight(), list(0, 1, 2), 1, api.OK},
		{tight(), list(2), 0, api.ErrWrong},
		{tight(), nil, 0, api.ErrWrong},
		{examples(), list(0, 1, 2), 0, api.ErrWrong},
		{lost, nil, 1, api.OK},
		{lost, list(), 1, api.OK},
		{lost, list(0), 0, api.ErrWrong},
		{tight(), list(2, 0), 0, api.ErrOrder},
		{tight(), list(0, 0, 2), 0, api.ErrOrder},
		{tight(), list(0, 2, 2), 0, api.ErrOrder},
		{tight(), list(0, 3), 0, api.ErrNoSuch},
		{tight(), list(2, 0, 3), 0, api.ErrNoSuch},
		{tight(), list(-1, 0), 0, api.ErrNoSuch},
		{tight(), list(math.MaxInt), 0, api.ErrNoSuch},
		{tight(), list(0, math.MinInt), 0, api.ErrNoSuch},
		{tight(), make([]int, 100000), 0, api.ErrOrder},
		{rat.Colony{}, list(7), 0, api.ErrCount},
	} {
		if n, e := rat.Short(x.c, x.houses); n != x.n || e != x.e {
			t.Error(i, n, e)
		}
	}
	for i, x := range []struct {
		c rat.Colony
		e api.Errno
	}{{tight(), api.OK}, {lost, api.OK}, {examples(), api.ErrNone}, {quiet(list(0)), api.ErrNone}} {
		houses, e := rat.Clash(x.c)
		if e != x.e || e == api.OK && ask(x.c).shortOf(houses) < 1 || e != api.OK && houses != nil {
			t.Error(i, houses, e)
		}
	}
	// In house 0 one rat more was caught than there was room for: its room makes up for it.
	c := tight()
	for room := range 5 {
		c.Rooms = list(room, 60, 60)
		if houses, e := rat.Clash(c); (e == api.OK) != (room < 3) || e == api.OK && !slices.Equal(houses, list(0)) {
			t.Error(room, houses, e)
		}
	}
}
