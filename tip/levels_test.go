package tip_test

import (
	"math"
	"reflect"
	"slices"
	"testing"

	"laystall/api"
	"laystall/tip"
)

// TestP73Examples: the levels and the needs of the chapter's examples, and places that do not exist.
func TestP73Examples(t *testing.T) {
	for i, x := range []struct {
		strip, day int
		want       api.Span
		e          api.Errno
	}{
		{0, 0, point(20), api.OK},
		{0, 1, span(20, 21), api.OK},
		{0, 2, span(18, 21), api.OK},
		{0, 3, span(17, 19), api.OK},
		{0, 60, span(17, 19), api.OK},
		{1, 0, point(0), api.OK},
		{1, 2, point(21), api.OK},
		{1, 3, span(17, 19), api.OK},
		{0, -1, empty(), api.ErrRange},
		{0, 61, empty(), api.ErrRange},
		{1, math.MaxInt, empty(), api.ErrRange},
		{2, 61, empty(), api.ErrNoSuch},
		{-1, 0, empty(), api.ErrNoSuch},
		{math.MinInt, math.MinInt, empty(), api.ErrNoSuch},
	} {
		s, e := tip.Level(examples(), x.strip, x.day)
		low, f := tip.Ends(examples(), x.strip, x.day, false)
		high, g := tip.Ends(examples(), x.strip, x.day, true)
		if s != x.want || e != x.e || f != x.e || g != x.e || e != api.OK && (low != nil || high != nil) {
			t.Error(i, s, low, high, e, f, g)
		}
	}
	if need, e := tip.Need(examples()); !slices.Equal(need, list(21, 21)) || e != api.OK {
		t.Error(need, e)
	}
	if strip, day, e := tip.Over(examples()); strip != 0 || day != 0 || e != api.ErrNone {
		t.Error(strip, day, e)
	}
}

// TestP73AllSettlings goes through all settlings of all layers of small tips.
func TestP73AllSettlings(t *testing.T) {
	l := &luck{7}
	wide := 0
	for range 150 {
		q := l.tip(small())
		for strip, s := range q.Strips {
			for _, day := range list(0, 1, 2, 3, 4, 5, 6, 7, 54, 58, 60) {
				want := point(s.Base)
				for _, layer := range q.Layers {
					// Layers settle by their own settlings: what they add does not depend on others.
					if layer.Strip == strip {
						least, most := math.MaxInt, 0
						allSettlings(q.Settles, func(percents []int) {
							thick := thicknessOf(q, layer, day, percents)
							least, most = min(least, thick), max(most, thick)
						})
						want = span(want.Lo+least, want.Hi+most)
					}
				}
				if got, e := tip.Level(q, strip, day); got != want || e != api.OK {
					t.Fatal(q, strip, day, got, want, e)
				}
				wide += count(want.Lo < want.Hi)
			}
		}
	}
	if wide < 200 {
		t.Error("levels of several values:", wide)
	}
}

// TestP73Ends: settlings reach the ends of each level.
func TestP73Ends(t *testing.T) {
	l := &luck{8}
	wide := 0
	for i := range 400 {
		q := l.tip([]size{large(), middle(), small()}[i%3])
		w := ask(q)
		strip, day := l.below(len(q.Strips)), l.from(0, tip.MaxDay)
		want := w.level(strip, day)
		if got, e := tip.Level(q, strip, day); got != want || e != api.OK {
			t.Fatal(q, strip, day, got, want, e)
		}
		for most, end := range map[bool]int{true: want.Hi, false: want.Lo} {
			settlings, e := tip.Ends(q, strip, day, most)
			noError(t, e)
			if len(settlings) != len(q.Layers) {
				t.Fatal(q, settlings)
			}
			level := q.Strips[strip].Base
			for i, layer := range q.Layers {
				if layer.Cover && len(settlings[i]) > 0 || !layer.Cover && !isSettling(q, settlings[i]) {
					t.Fatal(q, i, settlings[i])
				}
				if layer.Strip == strip {
					level += thicknessOf(q, layer, day, settlings[i])
				}
			}
			if n, e := tip.With(q, settlings, strip, day); n != end || level != end || e != api.OK {
				t.Fatal(q, strip, day, most, n, level, end, e)
			}
		}
		wide += count(want.Lo < want.Hi)
	}
	if wide < 100 {
		t.Error("levels of several values:", wide)
	}
}

// isSettling reports whether a list is a settling of a tip.
func isSettling(t tip.Tip, percents []int) bool {
	found := false
	if len(percents) == len(t.Settles) {
		var points []api.Span
		for age, p := range percents {
			if !has(t.Settles[age], p) {
				return false
			}
			points = append(points, point(p))
		}
		allSettlings(points, func([]int) { found = true })
	}
	return found
}

// TestP73Over holds the first day, and the strip, and all needs, against all days and strips.
func TestP73Over(t *testing.T) {
	l := &luck{9}
	kept, over, later := 0, 0, 0
	for i := range 2400 {
		z := []size{large(), middle(), small()}[i%3]
		q := l.tip(z)
		if i%2 == 0 {
			q = l.kept(z)
		}
		w := ask(q)
		strip, day := w.over()
		want := api.OK
		if day < 0 {
			strip, day, want = 0, 0, api.ErrNone
		}
		if s, d, e := tip.Over(q); s != strip || d != day || e != want {
			t.Fatal(q, s, d, e, strip, day, want)
		}
		var needs []int
		for strip := range q.Strips {
			needs = append(needs, w.need(strip, 0))
		}
		if need, e := tip.Need(q); !slices.Equal(need, needs) || e != api.OK {
			t.Fatal(q, need, needs, e)
		}
		kept += count(want == api.ErrNone)
		over += count(want == api.OK && day == 0)
		later += count(want == api.OK && day > 0 && strip > 0)
	}
	if kept < 200 || over < 50 || later < 100 {
		t.Error("tips in which lines are kept, not kept on the first day, and later, on another strip:", kept, over, later)
	}
}

// TestP73OverEdges: the line itself is kept; of several strips the first one is told; the ground alone can be too high.
func TestP73OverEdges(t *testing.T) {
	for i, x := range []struct {
		lines      []int
		strip, day int
		e          api.Errno
	}{
		{list(21, 21), 0, 0, api.ErrNone},
		{list(20, 21), 0, 1, api.OK},
		{list(21, 20), 1, 2, api.OK},
		{list(20, 20), 0, 1, api.OK},
		{list(19, 20), 0, 0, api.OK},
		{list(9, 0), 0, 0, api.OK},
		{list(999, 999), 0, 0, api.ErrNone},
	} {
		q := examples()
		for strip, line := range x.lines {
			q.Strips[strip].Line = line
		}
		if strip, day, e := tip.Over(q); strip != x.strip || day != x.day || e != x.e {
			t.Error(i, strip, day, e)
		}
	}
	q := plain()
	q.Strips = []tip.Strip{{Area: 1, Base: 5, Line: 5}, {Area: 1, Base: 7, Line: 6}, {Area: 1, Base: 9, Line: 3}}
	if strip, day, e := tip.Over(q); strip != 1 || day != 0 || e != api.OK {
		t.Error(strip, day, e)
	}
	if need, e := tip.Need(q); !slices.Equal(need, list(5, 7, 9)) || e != api.OK {
		t.Error(need, e)
	}
	// Waste of the last day counts, too.
	q = plain()
	q.Layers = []tip.Layer{{Day: 60, Pounds: 2000}}
	q.Strips[0].Line = 19
	if strip, day, e := tip.Over(q); strip != 0 || day != 60 || e != api.OK {
		t.Error(strip, day, e)
	}
	if settlings, e := tip.Ends(q, 0, 60, true); !reflect.DeepEqual(settlings, [][]int{{100}}) || e != api.OK {
		t.Error(settlings, e)
	}
}
