package street_test

import (
	"slices"
	"testing"

	"laystall/api"
	"laystall/street"
)

// TestP15Bounds: tables that bound, and tables that miss it by one minute.
func TestP15Bounds(t *testing.T) {
	for i, x := range []struct {
		from, at int
		table    []int
		is       bool
		e        api.Errno
	}{
		{0, 0, []int{0, 5, 9, 23}, true, api.OK},
		{0, 1, []int{0, 5, 9, 23}, true, api.OK},
		{0, 1, []int{1, 6, 10, 23}, true, api.OK},
		{0, 0, []int{1, 6, 10, 23}, false, api.OK},
		{0, 0, []int{0, 6, 9, 23}, false, api.OK},
		{0, 0, []int{0, 5, 10, 23}, false, api.OK},
		{0, 0, []int{0, 5, 9, 24}, false, api.OK},
		{0, 0, []int{0, 5, 9, None}, false, api.OK},
		{0, 0, []int{None, 5, 9, 23}, false, api.OK},
		{0, 0, []int{None, None, None, None}, false, api.OK},
		{0, 0, []int{0, 4, 8, 11}, true, api.OK},
		{0, 0, []int{0, 4, 7, 11}, false, api.OK}, // at 7 the street 3 can still be passed, and is behind at 10
		{0, 0, []int{0, 4, 7, 10}, true, api.OK},
		{1, 240, []int{None, 240, None, None}, true, api.OK},
		{3, 237, []int{None, None, None, 237}, false, api.OK},
		{3, 238, []int{None, None, None, 238}, true, api.OK},
		{0, 240, []int{240, 240, 240, 240}, true, api.OK},
		{0, 0, []int{0, 5, 9}, false, api.ErrCount},
		{0, 0, []int{0, 5, 9, 23, 23}, false, api.ErrCount},
		{0, 0, nil, false, api.ErrCount},
		{0, 0, []int{0, 5, 9, 241}, false, api.ErrRange},
		{0, 0, []int{0, 5, 9, -2}, false, api.ErrRange},
	} {
		if is, e := street.Bounds(examples(), cart(3, 0), x.from, x.at, x.table); is != x.is || e != x.e {
			t.Error(i, is, e)
		}
	}
}

const None = street.None

// bounds reports whether a table bounds, by the words of the chapter.
func bounds(t street.Town, c street.Cart, from, at int, table []int) bool {
	if table[from] == None || table[from] > at {
		return false
	}
	for i, s := range t.Streets {
		for _, x := range []struct {
			leg       street.Leg
			near, far int
		}{{forth(i), s.From, s.To}, {back(i), s.To, s.From}} {
			if table[x.near] == None {
				continue
			}
			then, e := street.Pass(t, c, x.leg, table[x.near])
			if e == api.OK && (table[x.far] == None || table[x.far] > then) {
				return false
			}
		}
	}
	return true
}

// TestP15BoundsBrute: tables near to the one of earliest minutes bound as the chapter says.
func TestP15BoundsBrute(t *testing.T) {
	l := &luck{3}
	yes := 0
	for range 3000 {
		town, c := l.town(), l.cart()
		from, at := l.below(town.Corners), l.below(241)
		table, e := street.Earliest(town, c, from, at)
		noError(t, e)
		for range l.below(4) {
			i := l.below(len(table))
			table[i] = min(max(table[i]+l.below(9)-6, None), street.MaxDay)
		}
		is, e := street.Bounds(town, c, from, at, table)
		if want := bounds(town, c, from, at, table); e != api.OK || is != want {
			t.Fatal(town, c, from, at, table, is, e)
		}
		if is {
			yes++
		}
	}
	if yes < 500 || yes > 2900 {
		t.Error("these tables show too little:", yes)
	}
}

// TestP15Reach: closings and the day do not count, all other laws do.
func TestP15Reach(t *testing.T) {
	shut := examples()
	shut.Streets[3].Shut = api.Span{Lo: 0, Hi: 239}
	long := street.Town{Corners: 8}
	for i := range 7 {
		s := plain(i, i+1, 30)
		s.Up = 3
		long.Streets = append(long.Streets, s)
	}
	for i, x := range []struct {
		town street.Town
		c    street.Cart
		from int
		want []int
	}{
		{examples(), cart(3, 0), 0, []int{0, 1, 2, 3}},
		{examples(), cart(5, 0), 0, []int{0, 2, 3}},
		{examples(), cart(5, 3), 1, []int{0, 1, 2, 3}},
		{examples(), cart(5, 4), 1, []int{1}},
		{examples(), cart(5, 4), 3, []int{0, 2, 3}},
		{shut, cart(3, 0), 0, []int{0, 1, 2, 3}},
		{long, cart(1, 9), 0, []int{0, 1, 2, 3, 4, 5, 6, 7}},
		{street.Town{Corners: 1}, cart(1, 0), 0, []int{0}},
	} {
		if l, e := street.Reach(x.town, x.c, x.from); !slices.Equal(l, x.want) || e != api.OK {
			t.Error(i, l, e)
		}
	}
}

// TestP15Out: streets that lead out forth or back, whenever they are shut, in increasing order.
func TestP15Out(t *testing.T) {
	town := examples()
	town.Streets[3].Shut = api.Span{Lo: 0, Hi: 239}
	for i, x := range []struct {
		c       street.Cart
		corners []int
		want    []int
		e       api.Errno
	}{
		{cart(5, 0), []int{0, 2, 3}, nil, api.OK},
		{cart(4, 0), []int{0, 2, 3}, []int{0}, api.OK},
		{cart(4, 0), []int{2}, []int{2, 3}, api.OK},
		{cart(4, 0), []int{1, 3}, []int{0, 1, 3}, api.OK},
		{cart(4, 4), []int{1, 3}, []int{0, 3}, api.OK},
		{cart(4, 0), []int{0, 3}, []int{0, 2, 3}, api.OK},
		{cart(4, 0), []int{0, 1}, []int{1, 2}, api.OK},
		{cart(4, 0), nil, nil, api.OK},
		{cart(4, 0), []int{}, nil, api.OK},
		{cart(4, 0), []int{0, 1, 2, 3}, nil, api.OK},
		{cart(4, 0), []int{1, 0}, nil, api.ErrOrder},
		{cart(4, 0), []int{1, 1}, nil, api.ErrOrder},
		{cart(4, 0), []int{1, 0, -1}, nil, api.ErrNoSuch},
	} {
		if l, e := street.Out(town, x.c, x.corners); !slices.Equal(l, x.want) || e != x.e {
			t.Error(i, l, e)
		}
	}
	many := street.Town{Corners: 3, Streets: []street.Street{plain(2, 1, 1), plain(0, 1, 1), plain(2, 1, 1)}}
	if l, e := street.Out(many, cart(1, 0), []int{0, 2}); !slices.Equal(l, []int{0, 1, 2}) || e != api.OK {
		t.Error(l, e)
	}
}

// TestP15Bars: each law alone, two that each suffice, two that only both suffice, and the end of the day.
func TestP15Bars(t *testing.T) {
	steep := street.Street{From: 0, Minutes: 10, Up: 3, Wide: 4, Bears: 4, Shut: never()}
	shut := steep
	shut.Shut = api.Span{Lo: 0, Hi: 239}
	for i, x := range []struct {
		town         street.Town
		c            street.Cart
		from, to, at int
		want         []street.Law
		e            api.Errno
	}{
		{pair(steep), cart(4, 0), 1, 0, 0, []street.Law{street.OneWay}, api.OK},
		{pair(steep), cart(4, 4), 1, 0, 230, []street.Law{street.OneWay}, api.OK}, // back, the load counts for nothing
		{pair(steep), cart(4, 4), 1, 0, 231, nil, api.OK},
		{pair(steep), cart(5, 0), 0, 1, 0, []street.Law{street.Narrow}, api.OK},
		{pair(steep), cart(4, 5), 0, 1, 0, []street.Law{street.Weak}, api.OK},
		{pair(steep), cart(4, 5), 0, 1, 215, []street.Law{street.Weak}, api.OK},
		{pair(steep), cart(4, 5), 0, 1, 216, nil, api.OK}, // it is as slow with its load as before
		{pair(shut), cart(4, 0), 0, 1, 0, []street.Law{street.Closing}, api.OK},
		{pair(shut), cart(4, 0), 0, 1, 230, []street.Law{street.Closing}, api.OK},
		{pair(shut), cart(4, 0), 0, 1, 231, nil, api.OK},
		{pair(shut), cart(5, 0), 0, 1, 0, nil, api.OK},
		{pair(steep), cart(5, 5), 0, 1, 0, nil, api.OK},
		{pair(steep), cart(5, 0), 1, 0, 0, nil, api.OK},
		{pair(steep), cart(4, 4), 0, 1, 0, nil, api.ErrNone},
		{pair(steep), cart(9, 9), 1, 1, 240, nil, api.ErrNone},
		{examples(), cart(5, 0), 0, 1, 0, []street.Law{street.OneWay, street.Narrow}, api.OK},
		{examples(), cart(5, 4), 1, 0, 0, []street.Law{street.Narrow, street.Weak}, api.OK},
		{examples(), cart(3, 0), 0, 3, 230, nil, api.OK},
		{street.Town{Corners: 2}, cart(1, 0), 0, 1, 0, nil, api.OK},
	} {
		if l, e := street.Bars(x.town, x.c, x.from, x.to, x.at); !slices.Equal(l, x.want) || e != x.e {
			t.Error(i, l, e)
		}
	}
}

// TestP15BarsBrute: a law that is lifted is a town in which no street has it.
func TestP15BarsBrute(t *testing.T) {
	lift := map[street.Law]func(s *street.Street){
		street.OneWay:  func(s *street.Street) { s.Back = true },
		street.Narrow:  func(s *street.Street) { s.Wide = street.MaxWide },
		street.Weak:    func(s *street.Street) { s.Bears = street.MaxLoad },
		street.Closing: func(s *street.Street) { s.Shut = never() },
	}
	l := &luck{4}
	for range 300 {
		town, c := l.town(), cart(1+l.below(9), l.below(10))
		from, to, at := l.below(town.Corners), l.below(town.Corners), l.below(241)
		laws, e := street.Bars(town, c, from, to, at)
		if (world{town, c}).earliest(from, at)[to] != None {
			if e != api.ErrNone {
				t.Fatal(town, c, from, to, at, laws, e)
			}
			continue
		}
		var want []street.Law
		for law := street.OneWay; law <= street.Closing; law++ {
			free := street.Town{Corners: town.Corners, Streets: slices.Clone(town.Streets)}
			for i := range free.Streets {
				lift[law](&free.Streets[i])
			}
			if (world{free, c}).earliest(from, at)[to] != None {
				want = append(want, law)
			}
		}
		if e != api.OK || !slices.Equal(laws, want) {
			t.Fatal(town, c, from, to, at, laws, want, e)
		}
	}
}
