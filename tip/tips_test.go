package tip_test

import (
	"math"
	"reflect"
	"slices"
	"testing"

	"laystall/api"
	"laystall/tip"
)

// checkOf returns the error of a tip, by the words of the chapter.
func checkOf(t tip.Tip) api.Errno {
	in := func(n, lo, hi int) bool { return has(span(lo, hi), n) }
	count := in(len(t.Strips), 1, 4) && in(len(t.Layers), 0, 12) && in(len(t.Settles), 1, 8) && in(len(t.Gives), 1, 8)
	ranges, exist, order := in(t.Soil, 0, 9) && in(t.Open, 0, 9), true, true
	for _, s := range t.Strips {
		ranges = ranges && in(s.Area, 1, 200) && in(s.Base, 0, 999) && in(s.Line, 0, 999)
	}
	for _, s := range append(slices.Clone(t.Settles), t.Gives...) {
		ranges = ranges && in(s.Lo, 0, 100) && in(s.Hi, 0, 100) && s.Lo <= s.Hi
	}
	for i, l := range t.Layers {
		ranges = ranges && in(l.Day, 0, 60) && (l.Cover && l.Pounds == 0 || !l.Cover && in(l.Pounds, 1, 2000))
		exist = exist && in(l.Strip, 0, len(t.Strips)-1)
		order = order && (i == 0 || l.Day >= t.Layers[i-1].Day)
	}
	switch {
	case !count:
		return api.ErrCount
	case !ranges:
		return api.ErrRange
	case !exist:
		return api.ErrNoSuch
	case !order:
		return api.ErrOrder
	case leftOf(t.Settles) == nil:
		return api.ErrClash
	}
	return api.OK
}

// TestP71Limits asks each number of a tip at its limits, and one beyond them.
func TestP71Limits(t *testing.T) {
	for i, x := range []struct {
		number func(t *tip.Tip) *int
		limits api.Span
	}{
		{func(t *tip.Tip) *int { return &t.Strips[1].Area }, span(1, 200)},
		{func(t *tip.Tip) *int { return &t.Strips[1].Base }, span(0, 999)},
		{func(t *tip.Tip) *int { return &t.Strips[0].Line }, span(0, 999)},
		{func(t *tip.Tip) *int { return &t.Soil }, span(0, 9)},
		{func(t *tip.Tip) *int { return &t.Open }, span(0, 9)},
		{func(t *tip.Tip) *int { return &t.Layers[0].Pounds }, span(1, 2000)},
		{func(t *tip.Tip) *int { return &t.Layers[2].Pounds }, span(1, 2000)},
		{func(t *tip.Tip) *int { return &t.Layers[1].Pounds }, point(0)},
		{func(t *tip.Tip) *int { return &t.Settles[0].Lo }, span(0, 100)},
		{func(t *tip.Tip) *int { return &t.Settles[0].Hi }, point(100)},
		{func(t *tip.Tip) *int { return &t.Settles[3].Lo }, span(0, 70)},
		{func(t *tip.Tip) *int { return &t.Settles[3].Hi }, span(50, 100)},
		{func(t *tip.Tip) *int { return &t.Gives[0].Hi }, span(0, 100)},
		{func(t *tip.Tip) *int { return &t.Gives[2].Lo }, span(0, 3)},
		{func(t *tip.Tip) *int { return &t.Gives[2].Hi }, span(1, 100)},
	} {
		for _, n := range list(x.limits.Lo, x.limits.Hi, x.limits.Lo-1, x.limits.Hi+1, math.MinInt, math.MaxInt) {
			q := examples()
			*x.number(&q) = n
			want := api.ErrRange
			if has(x.limits, n) {
				want = api.OK
			}
			if e := tip.Check(q); e != want {
				t.Error(i, n, e, want)
			}
		}
	}
	for _, x := range []struct {
		day int
		e   api.Errno
	}{{2, api.OK}, {60, api.OK}, {61, api.ErrRange}, {1, api.OK}, {0, api.ErrOrder}, {-1, api.ErrRange}} {
		q := examples()
		q.Layers[2].Day = x.day
		if e := tip.Check(q); e != x.e {
			t.Error(x, e)
		}
	}
	for _, strip := range list(0, 1, 2, -1, math.MinInt, math.MaxInt) {
		for layer := range 3 {
			q := examples()
			q.Layers[layer].Strip = strip
			if e := tip.Check(q); (e == api.OK) != (strip == 0 || strip == 1) || e != api.OK && e != api.ErrNoSuch {
				t.Error(strip, layer, e)
			}
		}
	}
}

// TestP71Counts asks for all numbers of strips, layers and spans.
func TestP71Counts(t *testing.T) {
	for n := range 20 {
		for i, x := range []struct {
			size   func(t *tip.Tip)
			limits api.Span
		}{
			{func(t *tip.Tip) { t.Strips, t.Layers = slices.Repeat(t.Strips[:1], n), nil }, span(1, 4)},
			{func(t *tip.Tip) { t.Layers = slices.Repeat(t.Layers[:1], n) }, span(0, 12)},
			{func(t *tip.Tip) { t.Settles = slices.Repeat(t.Settles[:1], n) }, span(1, 8)},
			{func(t *tip.Tip) { t.Gives = slices.Repeat(t.Gives[:1], n) }, span(1, 8)},
		} {
			q := examples()
			x.size(&q)
			want := api.ErrCount
			if has(x.limits, n) {
				want = api.OK
			}
			if e := tip.Check(q); e != want {
				t.Error(i, n, e, want)
			}
		}
	}
}

// TestP71Clash goes through all spans of three ages with few numbers: there is a settling, or not.
func TestP71Clash(t *testing.T) {
	var spans []api.Span
	for lo := range 4 {
		for hi := lo; hi < 4; hi++ {
			spans = append(spans, span(30*lo, 30*hi))
		}
	}
	clashes := 0
	for _, a := range spans {
		for _, b := range spans {
			for _, c := range spans {
				q := plain()
				q.Settles = []api.Span{a, b, c}
				// There is a settling if there is one of ends of spans.
				found := false
				for _, x := range list(a.Lo, a.Hi) {
					for _, y := range list(a.Lo, a.Hi, b.Lo, b.Hi) {
						found = found || has(b, y) && x >= y && y >= c.Lo
					}
				}
				want := api.ErrClash
				if found {
					want = api.OK
				}
				if e := tip.Check(q); e != want {
					t.Fatal(q.Settles, e, want)
				}
				clashes += count(!found)
			}
		}
	}
	if clashes < 100 {
		t.Error("clashes:", clashes)
	}
}

// TestP71Words holds tips that can be wrong in every place against the words of the chapter.
func TestP71Words(t *testing.T) {
	l := &luck{1}
	many := map[api.Errno]int{}
	for range 6000 {
		q := l.strangeTip()
		want := checkOf(q)
		if e := tip.Check(q); e != want {
			t.Fatal(q, e, want)
		}
		many[want]++
	}
	for _, e := range []api.Errno{api.OK, api.ErrCount, api.ErrRange, api.ErrNoSuch, api.ErrOrder, api.ErrClash} {
		if many[e] < 50 {
			t.Error("tips with the error", e, "are", many[e])
		}
	}
}

// TestP71Lay lays layers on tips: the one that is laid is the last one, and all else is as it was.
func TestP71Lay(t *testing.T) {
	l := &luck{2}
	many := map[api.Errno]int{}
	for i := range 3000 {
		q := l.tip([]size{large(), middle(), small()}[i%3])
		layer := tip.Layer{Strip: l.below(len(q.Strips)), Day: l.from(0, tip.MaxDay), Pounds: l.pounds()}
		if l.below(3) == 0 {
			layer.Pounds, layer.Cover = 0, true
		}
		l.odd(&layer.Strip, &layer.Day, &layer.Pounds)
		want := copyOf(q)
		want.Layers = append(want.Layers, layer)
		got, e := tip.Lay(q, layer)
		if f := checkOf(want); e != f {
			t.Fatal(q, layer, e, f)
		}
		if e != api.OK {
			want = tip.Tip{}
		}
		if !reflect.DeepEqual(got, want) {
			t.Fatal(q, layer, got, want)
		}
		many[e]++
	}
	for _, e := range []api.Errno{api.OK, api.ErrCount, api.ErrRange, api.ErrNoSuch, api.ErrOrder} {
		if many[e] < 20 {
			t.Error("layers with the error", e, "are", many[e])
		}
	}
}

// TestP71LayErrors: the errors of the tip as it is come first.
func TestP71LayErrors(t *testing.T) {
	full := examples()
	full.Layers = slices.Repeat(full.Layers[:1], 12)
	clash := examples()
	clash.Settles[1] = span(40, 45)
	for i, x := range []struct {
		t tip.Tip
		l tip.Layer
		e api.Errno
	}{
		{examples(), tip.Layer{Strip: 1, Day: 2, Pounds: 1}, api.OK},
		{examples(), tip.Layer{Strip: 1, Day: 60, Pounds: 2000}, api.OK},
		{examples(), tip.Layer{Strip: 1, Day: 2, Cover: true}, api.OK},
		{examples(), tip.Layer{Strip: 1, Day: 2}, api.ErrRange},
		{examples(), tip.Layer{Strip: 1, Day: 2, Pounds: 2001}, api.ErrRange},
		{examples(), tip.Layer{Strip: 1, Day: 2, Pounds: 1, Cover: true}, api.ErrRange},
		{examples(), tip.Layer{Strip: 1, Day: 2, Pounds: -1, Cover: true}, api.ErrRange},
		{examples(), tip.Layer{Strip: 5, Day: 61, Pounds: 1}, api.ErrRange},
		{examples(), tip.Layer{Strip: 5, Day: 1, Pounds: 1}, api.ErrNoSuch},
		{examples(), tip.Layer{Strip: 1, Day: 1, Pounds: 1}, api.ErrOrder},
		{full, tip.Layer{Strip: 5, Day: 61}, api.ErrCount},
		{clash, tip.Layer{Strip: 5, Day: 61}, api.ErrClash},
		{tip.Tip{}, tip.Layer{Strip: 5, Day: 61}, api.ErrCount},
	} {
		if got, e := tip.Lay(x.t, x.l); e != x.e || e != api.OK && !reflect.DeepEqual(got, tip.Tip{}) {
			t.Error(i, got, e)
		}
	}
}
