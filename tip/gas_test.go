package tip_test

import (
	"math"
	"testing"

	"laystall/api"
	"laystall/tip"
)

// TestP77Gas holds gas against the sum over all waste, on each day.
func TestP77Gas(t *testing.T) {
	l := &luck{18}
	wide := 0
	for i := range 600 {
		q := l.tip([]size{large(), middle(), small()}[i%3])
		for day := range tip.MaxDay + 1 {
			want := gasOf(q, day)
			if got, e := tip.Gas(q, day); got != want || e != api.OK {
				t.Fatal(q, day, got, want, e)
			}
			wide += count(want.Lo > 0 && want.Lo < want.Hi)
		}
	}
	if wide < 1000 {
		t.Error("days with more or less gas:", wide)
	}
}

// TestP77GasEdges: the chapter's examples, what is rounded up for each layer, and days that do not exist.
func TestP77GasEdges(t *testing.T) {
	for day, want := range []api.Span{empty(), span(20, 50), span(10, 30), span(31, 81), span(21, 61), span(21, 61)} {
		if s, e := tip.Gas(examples(), day); s != want || e != api.OK {
			t.Error(day, s, e)
		}
	}
	for _, day := range list(-1, 61, math.MinInt, math.MaxInt) {
		if s, e := tip.Gas(examples(), day); s != empty() || e != api.ErrRange {
			t.Error(day, s, e)
		}
	}
	q := plain()
	q.Gives = []api.Span{span(1, 100)}
	for range tip.MaxLayers {
		q.Layers = append(q.Layers, tip.Layer{Day: 60, Pounds: 101})
	}
	for _, x := range []struct {
		day  int
		want api.Span
	}{{59, empty()}, {60, span(24, 1212)}} {
		if s, e := tip.Gas(q, x.day); s != x.want || e != api.OK {
			t.Error(x, s, e)
		}
	}
	// Gives has as many spans as it has, whatever Settles has: eight ages here, and one there.
	q.Gives = []api.Span{point(8), point(7), point(6), point(5), point(4), point(3), point(2), point(1)}
	q.Layers = []tip.Layer{{Pounds: 1000}}
	for day := range 12 {
		if s, e := tip.Gas(q, day); s != point(10*max(8-day, 1)) || e != api.OK {
			t.Error(day, s, e)
		}
	}
}

// quietOf returns the first day from which on there is surely at most so much gas, of all days; -1 if there is none.
func quietOf(t tip.Tip, most int) int {
	for from := range tip.MaxDay + 1 {
		quiet := true
		for day := from; day <= tip.MaxDay; day++ {
			quiet = quiet && gasOf(t, day).Hi <= most
		}
		if quiet {
			return from
		}
	}
	return -1
}

// TestP77Quiet holds the first day against all days.
func TestP77Quiet(t *testing.T) {
	l := &luck{19}
	none, first, later, again := 0, 0, 0, 0
	for i := range 600 {
		q := l.tip([]size{large(), middle(), small()}[i%3])
		most := gasOf(q, l.from(0, tip.MaxDay)).Hi - l.from(0, 1)
		if most < 0 || l.below(4) == 0 {
			most = l.from(0, 500)
		}
		want, e := quietOf(q, most), api.OK
		none += count(want < 0)
		first += count(want == 0)
		later += count(want > 0)
		again += count(want > 0 && gasOf(q, 0).Hi <= most)
		if want < 0 {
			want, e = 0, api.ErrNone
		}
		if day, f := tip.Quiet(q, most); day != want || f != e {
			t.Fatal(q, most, day, want, f, e)
		}
	}
	if none < 50 || first < 50 || later < 50 || again < 20 {
		t.Error("tips that never get quiet, always are, get it, and get it again:", none, first, later, again)
	}
}

// TestP77QuietEdges: the chapter's tip, the last day alone, and the numbers that can be asked.
func TestP77QuietEdges(t *testing.T) {
	last := plain()
	last.Gives = []api.Span{point(9), point(9), point(1)}
	last.Layers = []tip.Layer{{Day: 58, Pounds: 1000}}
	// What comes after the last day does not count.
	rising := plain()
	rising.Gives = []api.Span{point(1), point(9)}
	rising.Layers = []tip.Layer{{Day: 60, Pounds: 1000}}
	for i, x := range []struct {
		t          tip.Tip
		most, want int
		e          api.Errno
	}{
		{examples(), 61, 4, api.OK},
		{examples(), 80, 4, api.OK},
		{examples(), 81, 0, api.OK},
		{examples(), math.MaxInt, 0, api.OK},
		{examples(), 60, 0, api.ErrNone},
		{examples(), 0, 0, api.ErrNone},
		{examples(), -1, 0, api.ErrRange},
		{examples(), math.MinInt, 0, api.ErrRange},
		{plain(), 0, 0, api.OK},
		{last, 10, 60, api.OK},
		{last, 9, 0, api.ErrNone},
		{last, 89, 60, api.OK},
		{last, 90, 0, api.OK},
		{rising, 10, 0, api.OK},
		{rising, 9, 0, api.ErrNone},
	} {
		if day, e := tip.Quiet(x.t, x.most); day != x.want || e != x.e {
			t.Error(i, day, e)
		}
	}
}
