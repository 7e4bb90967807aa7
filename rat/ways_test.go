package rat_test

import (
	"math"
	"slices"
	"testing"

	"laystall/api"
	"laystall/rat"
)

// TestP82Ways goes through all ways of colonies: who can have gone one is told, and where they begin and end are the origins, from each of which there is a way.
func TestP82Ways(t *testing.T) {
	l := &luck{3}
	gone, not, none := 0, 0, 0
	for i := range 1200 {
		c := l.colony([]size{middle(), small()}[i%2])
		for night := range c.Nights {
			origins := make([]flags, len(c.Rooms))
			everyWay(len(c.Rooms), night+1, func(way []int) {
				want := goneOf(c, way)
				if is, e := rat.Gone(c, way); is != want || e != api.OK {
					t.Fatal(c, way, is, e)
				}
				if want {
					origins[way[night]][way[0]] = true
				}
				gone += count(want && night > 0)
				not += count(!want)
			})
			for house, want := range origins {
				sameOrigins(t, c, house, night, want)
				none += count(want == flags{})
			}
		}
	}
	if gone < 3000 || not < 3000 || none < 100 {
		t.Error("ways that rats can have gone, and cannot, and houses to which there is none:", gone, not, none)
	}
}

// sameOrigins holds what is told of the ways to a house in a night against the houses from which there is one.
func sameOrigins(t *testing.T, c rat.Colony, house, night int, want flags) {
	t.Helper()
	if got, e := rat.Origins(c, house, night); !slices.Equal(got, want.of()) || e != api.OK {
		t.Fatal(c, house, night, got, want, e)
	}
	for from := range c.Rooms {
		way, e := rat.Way(c, from, house, night)
		switch {
		case !want[from] && (e != api.ErrNone || way != nil):
			t.Fatal(c, from, house, night, way, e)
		case want[from] && (e != api.OK || len(way) != night+1 || way[0] != from || way[night] != house || !goneOf(c, way)):
			t.Fatal(c, from, house, night, way, e)
		}
	}
}

// TestP82Large holds the ways of the greatest colonies against those that lead back night by night, and against those that rats of stories have gone.
func TestP82Large(t *testing.T) {
	l := &luck{4}
	long := 0
	for range 150 {
		s := l.story(large())
		for night := range s.Nights {
			for house := range s.Rooms {
				sameOrigins(t, s.Colony, house, night, originsOf(s.Colony, house, night))
			}
		}
		for _, w := range slices.Concat(s.caught, s.left) {
			if len(s.Nights) == 0 {
				continue
			}
			if is, e := rat.Gone(s.Colony, w.way); !is || e != api.OK {
				t.Fatal(s.Colony, w.way, e)
			}
			long += count(len(w.way) > 4)
		}
	}
	if long < 500 {
		t.Error("rats that have gone a long way:", long)
	}
}

// TestP82Edges: a rat stays, or goes along a run from either end; the last house of its way need not be full, all others must be, also the first one, and also those without traps.
func TestP82Edges(t *testing.T) {
	bare := quiet(list(1, 1, 1, 1), rat.Run{A: 1, B: 0}, rat.Run{A: 1, B: 2})
	bare.Nights = [][]int{{0, 0, 0, 0}, {0, 0, 0, 0}, {0, 0, 0, 0}}
	open := copyOf(bare)
	open.Traps[1] = 1
	open.Nights[0][1], open.Nights[2][1] = 1, 1
	for i, x := range []struct {
		c   rat.Colony
		way []int
		is  bool
		e   api.Errno
	}{
		{bare, list(0), true, api.OK},
		{bare, list(0, 0, 0), true, api.OK},
		{bare, list(0, 1, 2), true, api.OK},
		{bare, list(2, 1, 0), true, api.OK},
		{bare, list(0, 2), false, api.OK},
		{bare, list(0, 0, 2), false, api.OK},
		{bare, list(3, 3, 3), true, api.OK},
		{bare, list(3, 2), false, api.OK},
		{open, list(0, 1, 2), false, api.OK},
		{open, list(0, 1, 1), false, api.OK},
		{open, list(0, 1), true, api.OK},
		{open, list(1, 2, 1), true, api.OK},
		{open, list(1, 1), true, api.OK},
		{open, list(1, 0, 1), true, api.OK},
		{bare, nil, false, api.ErrCount},
		{bare, list(), false, api.ErrCount},
		{bare, list(0, 0, 0, 0), false, api.ErrCount},
		{bare, list(9, 9, 9, 9), false, api.ErrCount},
		{bare, list(0, 2, 4), false, api.ErrNoSuch},
		{bare, list(-1), false, api.ErrNoSuch},
		{bare, list(0, math.MinInt, math.MaxInt), false, api.ErrNoSuch},
		{quiet(list(1)), list(0), false, api.ErrCount},
		{quiet(list(1)), nil, false, api.ErrCount},
		{bare, make([]int, 100000), false, api.ErrCount},
	} {
		if is, e := rat.Gone(x.c, x.way); is != x.is || e != x.e {
			t.Error(i, is, e)
		}
	}
}

// TestP82Errors asks for ways from, to and in what there is not.
func TestP82Errors(t *testing.T) {
	for _, x := range []struct {
		c                  rat.Colony
		from, house, night int
		e                  api.Errno
	}{
		{examples(), 0, 1, 1, api.OK},
		{examples(), 1, 1, 1, api.ErrNone},
		{examples(), 1, 0, 1, api.ErrNone},
		{examples(), 0, 1, 0, api.ErrNone},
		{examples(), 3, 0, 0, api.ErrNoSuch},
		{examples(), 0, 3, 0, api.ErrNoSuch},
		{examples(), 1, 1, 2, api.ErrNoSuch},
		{examples(), -1, 0, 0, api.ErrNoSuch},
		{examples(), 0, -1, 0, api.ErrNoSuch},
		{examples(), 0, 0, -1, api.ErrNoSuch},
		{examples(), math.MinInt, math.MaxInt, math.MaxInt, api.ErrNoSuch},
		{quiet(list(1)), 0, 0, 0, api.ErrNoSuch},
		{rat.Colony{}, 3, 0, 0, api.ErrCount},
	} {
		if way, e := rat.Way(x.c, x.from, x.house, x.night); e != x.e || (way != nil) != (x.e == api.OK) {
			t.Error(x, way, e)
		}
	}
}

// TestExample2 asks for the ways of the chapter's second example.
func TestExample2(t *testing.T) {
	for _, x := range []struct {
		house, night int
		full         bool
		want         []int
	}{
		{0, 0, true, list(0)}, {1, 0, false, list(1)}, {2, 0, true, list(2)},
		{0, 1, false, list(0)}, {1, 1, true, list(0, 2)}, {2, 1, false, list(2)},
	} {
		full, e := rat.Full(examples(), x.house, x.night)
		origins, f := rat.Origins(examples(), x.house, x.night)
		if full != x.full || !slices.Equal(origins, x.want) || e != api.OK || f != api.OK {
			t.Error(x, full, origins, e, f)
		}
	}
	most, e := rat.Find(examples(), true)
	after, f := rat.After(examples())
	if most.Left[1] != 0 || most.Left[0]+most.Left[2] != 4 || !slices.Equal(after, list(0, 4, 0)) || e != api.OK || f != api.OK {
		t.Error(most, after, e, f)
	}
}
