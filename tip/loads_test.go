package tip_test

import (
	"math"
	"slices"
	"testing"

	"laystall/api"
	"laystall/tip"
)

// three are the loads of the chapter's examples.
func three() []tip.Load {
	return []tip.Load{{Day: 2, Pounds: 900}, {Day: 3, Pounds: 1000}, {Day: 3, Pounds: 400}}
}

// mostOf returns how many of the first loads can be laid; -1 if lines are not kept even without loads.
func mostOf(t tip.Tip, loads []tip.Load) int {
	for n := len(loads); n >= 0; n-- {
		if _, found := fillOf(t, loads[:n]); found {
			return n
		}
	}
	return -1
}

// TestP75Fill goes through all lists of strips, in lexicographic order, and all first loads.
func TestP75Fill(t *testing.T) {
	l := &luck{11}
	over, none, first, other := 0, 0, 0, 0
	for i := range 1600 {
		z := []size{middle(), small()}[i%2]
		q := l.kept(z)
		if i%8 == 0 {
			q = l.tip(z)
		}
		loads := l.loads(l.from(0, z.loads), z)
		want, found := fillOf(q, loads)
		e := api.OK
		if !found {
			e = api.ErrNone
		}
		if got, f := tip.Fill(q, loads); !slices.Equal(got, want) || f != e {
			t.Fatal(q, loads, got, want, f, e)
		}
		most, e := mostOf(q, loads), api.OK
		if most < 0 {
			most, e = 0, api.ErrNone
		}
		if n, f := tip.Most(q, loads); n != most || f != e {
			t.Fatal(q, loads, n, most, f, e)
		}
		over += count(e == api.ErrNone)
		none += count(e == api.OK && most < len(loads))
		first += count(len(loads) > 0 && found && slices.Max(want) == 0)
		other += count(found && len(want) > 1 && !slices.IsSorted(want))
	}
	if over < 10 || none < 50 || first < 50 || other < 20 {
		t.Error("tips over their lines, with too many loads, with all loads on the first strip, and on several:", over, none, first, other)
	}
}

// TestP75FillLarge lays as many loads as there can be on as many strips.
func TestP75FillLarge(t *testing.T) {
	l := &luck{12}
	many, none := 0, 0
	for range 20 {
		q := l.kept(large())
		for len(q.Strips) < tip.MaxStrips {
			q = l.kept(large())
		}
		loads := l.loads(tip.MaxLoads, large())
		w := ask(q)
		got, e := tip.Fill(q, loads)
		most, f := tip.Most(q, loads)
		noError(t, f)
		if e == api.OK {
			if _, day := w.laid(loads, got).over(); day >= 0 || len(got) != len(loads) || most != len(loads) {
				t.Fatal(q, loads, got, day, most)
			}
			many++
		} else if e != api.ErrNone || most == len(loads) {
			t.Fatal(q, loads, e, most)
		} else {
			none++
			if strips, found := fillOf(q, loads[:most]); !found || len(strips) != most {
				t.Fatal(q, loads, most)
			}
			if strips, found := fillOf(q, loads[:most+1]); found {
				t.Fatal(q, loads, most, strips)
			}
		}
	}
	if many == 0 || none == 0 {
		t.Error("tips with room for all loads, and without:", many, none)
	}
}

// TestP75Examples: the chapter's example, no loads, and loads with errors.
func TestP75Examples(t *testing.T) {
	low := examples()
	low.Strips[0].Line = 20
	for i, x := range []struct {
		t     tip.Tip
		loads []tip.Load
		fill  []int
		most  int
		e, f  api.Errno
	}{
		{examples(), nil, nil, 0, api.OK, api.OK},
		{examples(), three()[:1], list(0), 1, api.OK, api.OK},
		{examples(), three()[:2], list(0, 1), 2, api.OK, api.OK},
		{examples(), three(), nil, 2, api.ErrNone, api.OK},
		{examples(), three()[1:], list(0, 1), 2, api.OK, api.OK},
		{examples(), []tip.Load{{60, 1100}, {60, 1250}}, list(0, 1), 2, api.OK, api.OK},
		{examples(), []tip.Load{{60, 1101}, {60, 1250}}, nil, 1, api.ErrNone, api.OK},
		{examples(), []tip.Load{{60, 1200}, {60, 1100}}, list(1, 0), 2, api.OK, api.OK},
		{examples(), []tip.Load{{0, 2000}, {1, 1}}, nil, 0, api.ErrNone, api.OK},
		{low, nil, nil, 0, api.ErrNone, api.ErrNone},
		{low, three(), nil, 0, api.ErrNone, api.ErrNone},
		{low, make([]tip.Load, 7), nil, 0, api.ErrCount, api.ErrCount},
		{low, []tip.Load{{3, 1}, {2, 2001}}, nil, 0, api.ErrRange, api.ErrRange},
		{low, []tip.Load{{3, 1}, {2, 1}}, nil, 0, api.ErrOrder, api.ErrOrder},
		{examples(), []tip.Load{{3, 1}, {3, 1}}, list(0, 0), 2, api.OK, api.OK},
		{examples(), slices.Repeat([]tip.Load{{3, 1}}, 6), list(0, 0, 0, 0, 0, 0), 6, api.OK, api.OK},
		{examples(), slices.Repeat([]tip.Load{{3, 1}}, 7), nil, 0, api.ErrCount, api.ErrCount},
	} {
		got, e := tip.Fill(x.t, x.loads)
		n, f := tip.Most(x.t, x.loads)
		if !slices.Equal(got, x.fill) || n != x.most || e != x.e || f != x.f {
			t.Error(i, got, e, n, f)
		}
	}
}

// TestP75LoadErrors asks the numbers of loads at their limits, and beyond them.
func TestP75LoadErrors(t *testing.T) {
	for _, x := range []struct {
		load tip.Load
		e    api.Errno
	}{
		{tip.Load{Day: 0, Pounds: 1}, api.OK},
		{tip.Load{Day: 60, Pounds: 1}, api.OK},
		{tip.Load{Day: 60, Pounds: 2000}, api.OK},
		{tip.Load{Day: -1, Pounds: 1}, api.ErrRange},
		{tip.Load{Day: 61, Pounds: 1}, api.ErrRange},
		{tip.Load{Day: math.MinInt, Pounds: 1}, api.ErrRange},
		{tip.Load{Day: math.MaxInt, Pounds: 1}, api.ErrRange},
		{tip.Load{Day: 0, Pounds: 0}, api.ErrRange},
		{tip.Load{Day: 0, Pounds: -1}, api.ErrRange},
		{tip.Load{Day: 0, Pounds: 2001}, api.ErrRange},
		{tip.Load{Day: 0, Pounds: math.MaxInt}, api.ErrRange},
		{tip.Load{Day: 0, Pounds: math.MinInt}, api.ErrRange},
	} {
		q := plain()
		loads := []tip.Load{x.load}
		strips, e := tip.Fill(q, loads)
		n, f := tip.Most(q, loads)
		if e != x.e || f != x.e || len(strips) != count(x.e == api.OK) || n != count(x.e == api.OK) {
			t.Error(x, strips, n, e, f)
		}
		want := x.e
		if x.e == api.OK {
			want = api.ErrNone
		}
		if _, _, e := tip.Spoils(q, loads, list(0)); e != want {
			t.Error(x, e)
		}
	}
}

// TestP75Spoils lays loads one after the other.
func TestP75Spoils(t *testing.T) {
	l := &luck{13}
	state, none, first, later := 0, 0, 0, 0
	for i := range 1500 {
		z := []size{large(), middle(), small()}[i%3]
		q := l.kept(z)
		if i%8 == 0 {
			q = l.tip(z)
		}
		loads := l.loads(l.from(0, z.loads), z)
		strips := l.on(q, loads)
		w := ask(q)
		load, day, want := 0, 0, api.ErrNone
		if _, day := w.over(); day >= 0 {
			want = api.ErrState
		}
		for n := range loads {
			if want == api.ErrNone {
				if _, on := w.laid(loads[:n+1], strips[:n+1]).over(); on >= 0 {
					load, day, want = n, on, api.OK
				}
			}
		}
		if k, d, e := tip.Spoils(q, loads, strips); k != load || d != day || e != want {
			t.Fatal(q, loads, strips, k, d, e, load, day, want)
		}
		state += count(want == api.ErrState)
		none += count(want == api.ErrNone)
		first += count(want == api.OK && load == 0)
		later += count(want == api.OK && load > 0)
	}
	if state < 20 || none < 100 || first < 50 || later < 50 {
		t.Error("tips over their lines, and loads of which none, the first one, and a later one spoils them:", state, none, first, later)
	}
}

// TestP75SpoilsExamples: the chapter's example, and lists of strips with errors.
func TestP75SpoilsExamples(t *testing.T) {
	low := examples()
	low.Strips[0].Line = 20
	late := three()
	late[0].Day = 4
	for i, x := range []struct {
		t         tip.Tip
		loads     []tip.Load
		strips    []int
		load, day int
		e         api.Errno
	}{
		{examples(), three(), list(0, 1, 0), 2, 3, api.OK},
		{examples(), three(), list(0, 1, 1), 2, 3, api.OK},
		{examples(), three(), list(1, 0, 1), 2, 3, api.OK},
		{examples(), three(), list(1, 1, 1), 1, 3, api.OK},
		{examples(), three()[:2], list(0, 1), 0, 0, api.ErrNone},
		{examples(), nil, nil, 0, 0, api.ErrNone},
		// A load can spoil a day on which waste that is laid later would have come.
		{examples(), []tip.Load{{0, 1001}, {2, 1}}, list(0, 1), 0, 0, api.OK},
		{examples(), []tip.Load{{0, 1000}, {60, 2000}}, list(0, 0), 1, 60, api.OK},
		{low, nil, nil, 0, 0, api.ErrState},
		{low, three(), list(0, 0, 0), 0, 0, api.ErrState},
		{low, three(), list(0, 0, 2), 0, 0, api.ErrNoSuch},
		{low, three(), list(0, -1, 0), 0, 0, api.ErrNoSuch},
		{low, three(), list(math.MaxInt, 0, 0), 0, 0, api.ErrNoSuch},
		{low, three(), list(2, 2), 0, 0, api.ErrCount},
		{low, three(), list(2, 2, 2, 2), 0, 0, api.ErrCount},
		{low, three(), nil, 0, 0, api.ErrCount},
		{low, late, nil, 0, 0, api.ErrOrder},
		{low, make([]tip.Load, 6), nil, 0, 0, api.ErrRange},
		{low, make([]tip.Load, 7), nil, 0, 0, api.ErrCount},
	} {
		if load, day, e := tip.Spoils(x.t, x.loads, x.strips); load != x.load || day != x.day || e != x.e {
			t.Error(i, load, day, e)
		}
	}
}
