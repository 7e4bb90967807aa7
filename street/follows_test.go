package street_test

import (
	"math"
	"reflect"
	"slices"
	"testing"

	"laystall/api"
	"laystall/street"
)

// notEarlier reports whether no corner of a table is come to earlier than in another one.
func notEarlier(table, than []int) bool {
	for i, m := range table {
		if m != None && (than[i] == None || m < than[i]) {
			return false
		}
	}
	return true
}

// TestP18Bounds: the table that is told bounds, and no table that bounds has more, or None, where a cart can be.
func TestP18Bounds(t *testing.T) {
	l := &luck{7}
	for range 500 {
		town, c := l.town(), l.cart()
		from, at := l.below(town.Corners), l.below(241)
		table, e := street.Earliest(town, c, from, at)
		noError(t, e)
		if is, e := street.Bounds(town, c, from, at, table); !is || e != api.OK {
			t.Fatal(town, c, from, at, table, is, e)
		}
		for i, m := range table {
			more := slices.Clone(table)
			for _, n := range []int{None, m + 1, 240} {
				if m == None || n == m || n > 240 {
					continue
				}
				more[i] = n
				if is, e := street.Bounds(town, c, from, at, more); is || e != api.OK {
					t.Fatal(town, c, from, at, more, is, e)
				}
			}
		}
	}
}

// TestP18NeverEarlier: a cart that leaves later, is wider or heavier, or has a street less, or one that is shut for longer, is nowhere earlier.
func TestP18NeverEarlier(t *testing.T) {
	l := &luck{8}
	for range 500 {
		town, c := l.town(), l.cart()
		from, at := l.below(town.Corners), l.below(240)
		table, e := street.Earliest(town, c, from, at)
		noError(t, e)
		try := func(town street.Town, c street.Cart, at int) {
			other, e := street.Earliest(town, c, from, at)
			noError(t, e)
			if !notEarlier(other, table) {
				t.Fatal(town, c, from, at, other, table)
			}
		}
		try(town, c, at+1)
		try(town, cart(c.Wide+1, c.Load), at)
		try(town, cart(c.Wide, c.Load+1), at)
		for i, s := range town.Streets {
			try(street.Town{Corners: town.Corners, Streets: slices.Concat(town.Streets[:i], town.Streets[i+1:])}, c, at)
			if s.Shut.Lo <= s.Shut.Hi {
				longer := street.Town{Corners: town.Corners, Streets: slices.Clone(town.Streets)}
				longer.Streets[i].Shut = api.Span{Lo: max(s.Shut.Lo-1, 0), Hi: min(s.Shut.Hi+1, 239)}
				try(longer, c, at)
			}
		}
	}
}

// TestP18Mirror: the latest minutes are those of the mirrored town.
func TestP18Mirror(t *testing.T) {
	l := &luck{9}
	for range 500 {
		town, c := l.town(), l.cart()
		to, by := l.below(town.Corners), l.below(241)
		late, e := street.Latest(town, c, to, by)
		noError(t, e)
		m, e := street.Mirror(town)
		noError(t, e)
		early, e := street.Earliest(m, c, to, street.MaxDay-by)
		noError(t, e)
		for i := range early {
			if early[i] != None {
				early[i] = street.MaxDay - early[i]
			}
		}
		if !slices.Equal(late, early) {
			t.Fatal(town, c, to, by, late, early)
		}
	}
}

// TestP02: where there is no drive, a set of corners that nothing leaves shows it, or the end of the day, or the closings.
func TestP02(t *testing.T) {
	l := &luck{10}
	for range 500 {
		town, c := l.town(), l.cart()
		from := l.below(town.Corners)
		reached, e := street.Reach(town, c, from)
		noError(t, e)
		out, e := street.Out(town, c, reached)
		if len(out) != 0 || e != api.OK || !slices.Contains(reached, from) || !slices.IsSorted(reached) {
			t.Fatal(town, c, from, reached, out, e)
		}
		open := street.Town{Corners: town.Corners, Streets: slices.Clone(town.Streets)}
		for i := range open.Streets {
			open.Streets[i].Shut, open.Streets[i].Minutes, open.Streets[i].Up = never(), 1, 0
		}
		table, e := street.Earliest(open, c, from, 0)
		noError(t, e)
		for to := range town.Corners {
			if (table[to] != None) != slices.Contains(reached, to) {
				t.Fatal(town, c, from, reached, table)
			}
			if _, _, e := street.Drive(town, c, from, to, 0); e == api.OK && !slices.Contains(reached, to) {
				t.Fatal(town, c, from, to)
			}
		}
	}
}

// strange returns a number that is an ordinary one, one at a limit, or any.
func (l *luck) strange() int {
	edges := [...]int{math.MinInt, math.MinInt + 1, -2, -1, 0, 1, 2, 3, 8, 9, 10, 16, 30, 31, 239, 240, 241, math.MaxInt - 1, math.MaxInt}
	if l.below(12) > 0 {
		return l.below(4)
	}
	return edges[l.below(len(edges))]
}

// strangeQuestion returns a question that can be wrong in every place.
func (l *luck) strangeQuestion() question {
	q := ordinary()
	q.town.Corners = l.strange()
	for i := range q.town.Streets {
		s := &q.town.Streets[i]
		for _, n := range []*int{&s.From, &s.To, &s.Minutes, &s.Up, &s.Wide, &s.Bears, &s.Shut.Lo, &s.Shut.Hi} {
			if l.below(30) == 0 {
				*n = l.strange()
			}
		}
	}
	if l.below(5) > 0 {
		q.town = examples()
	}
	for _, n := range []*int{&q.cart.Wide, &q.cart.Load, &q.leg.Street, &q.from, &q.to, &q.at, &q.by, &q.street} {
		*n = l.strange()
	}
	for _, list := range []*[]int{&q.table, &q.corners, &q.throughOf} {
		*list = nil
		for range l.below(10) {
			*list = append(*list, l.strange())
		}
	}
	q.legs = nil
	for range l.below(70) {
		q.legs = append(q.legs, street.Leg{Street: l.strange(), Back: l.below(2) == 0})
	}
	return q
}

// copied returns a question that shares no memory with another one.
func copied(q question) question {
	q.town.Streets = slices.Clone(q.town.Streets)
	q.legs, q.table, q.corners, q.throughOf = slices.Clone(q.legs), slices.Clone(q.table), slices.Clone(q.corners), slices.Clone(q.throughOf)
	return q
}

// answers returns what all functions say to a question.
func answers(q question) []any {
	var list []any
	say := func(x ...any) { list = append(list, x...) }
	two := func(x any, e api.Errno) { say(x, e) }
	say(street.Check(q.town))
	two(street.Mirror(q.town))
	two(street.Pass(q.town, q.cart, q.leg, q.at))
	two(street.Earliest(q.town, q.cart, q.from, q.at))
	two(street.Latest(q.town, q.cart, q.to, q.by))
	legs, minute, e := street.Drive(q.town, q.cart, q.from, q.to, q.at)
	say(legs, minute, e)
	corner, minute, e := street.Follow(q.town, q.cart, q.from, q.at, q.legs)
	say(corner, minute, e)
	two(street.Bounds(q.town, q.cart, q.from, q.at, q.table))
	two(street.Reach(q.town, q.cart, q.from))
	two(street.Out(q.town, q.cart, q.corners))
	two(street.Bars(q.town, q.cart, q.from, q.to, q.at))
	legs, minute, e = street.Tour(q.town, q.cart, q.from, q.at, q.throughOf)
	say(legs, minute, e)
	two(street.Through(q.legs, q.throughOf))
	two(street.Spare(q.town, q.cart, q.from, q.to, q.at, q.by))
	two(street.Heaviest(q.town, q.cart.Wide, q.from, q.to, q.at, q.by))
	two(street.Later(q.town, q.cart, q.from, q.to, q.at, q.street))
	return list
}

// TestP01: no question makes a function panic, change its arguments, or answer otherwise when it is asked again.
func TestP01(t *testing.T) {
	l := &luck{11}
	for range 5000 {
		q := l.strangeQuestion()
		before := copied(q)
		first := answers(q)
		if !reflect.DeepEqual(q, before) {
			t.Fatal("changed:", before, q)
		}
		if again := answers(q); !reflect.DeepEqual(again, first) {
			t.Fatal(q, first, again)
		}
	}
}

// TestR3NilAndEmpty: a list that is nil is the same as an empty one.
func TestR3NilAndEmpty(t *testing.T) {
	q := ordinary()
	q.town, q.to = street.Town{Corners: 4}, 0
	q.legs, q.table, q.corners, q.throughOf = nil, nil, nil, nil
	first := answers(q)
	q.town.Streets = []street.Street{}
	q.legs, q.table, q.corners, q.throughOf = []street.Leg{}, []int{}, []int{}, []int{}
	for i, x := range answers(q) {
		v, w := reflect.ValueOf(x), reflect.ValueOf(first[i])
		if v.Kind() == reflect.Slice && v.Len() == 0 && w.Len() == 0 {
			continue
		}
		if m, ok := x.(street.Town); ok && m.Corners == 4 && len(m.Streets) == 0 {
			continue
		}
		if !reflect.DeepEqual(x, first[i]) {
			t.Error(i, x, first[i])
		}
	}
}

// TestR4Memory: who changes a result changes nothing of what was asked, nor of what is answered next.
func TestR4Memory(t *testing.T) {
	q := ordinary()
	q.at = 0
	first := answers(q)
	for _, x := range answers(q) {
		switch r := x.(type) {
		case street.Town:
			clear(r.Streets)
		case []int:
			clear(r[:cap(r)])
		case []street.Leg:
			clear(r[:cap(r)])
		}
	}
	if again := answers(q); !reflect.DeepEqual(again, first) || !reflect.DeepEqual(q, ordinary()) {
		t.Error(again, first)
	}
}
