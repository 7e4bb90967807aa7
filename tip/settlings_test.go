package tip_test

import (
	"math"
	"slices"
	"testing"

	"laystall/api"
	"laystall/tip"
)

// TestP72Settling goes through all lists with numbers in and around the spans of small tips.
func TestP72Settling(t *testing.T) {
	l := &luck{3}
	are, not := 0, 0
	for range 60 {
		q := l.tip(small())
		var around []api.Span
		for _, s := range q.Settles {
			around = append(around, span(s.Lo-1, s.Hi+1))
		}
		var percents []int
		var add func()
		add = func() {
			if n := len(percents); n < len(around) {
				for p := around[n].Lo; p <= around[n].Hi; p++ {
					percents = append(percents[:n], p)
					add()
				}
				percents = percents[:n]
				return
			}
			want := true
			for age, p := range percents {
				want = want && has(q.Settles[age], p) && (age == 0 || p <= percents[age-1])
			}
			if is, e := tip.Settling(q, percents); is != want || e != api.OK {
				t.Fatal(q.Settles, percents, is, want, e)
			}
			are += count(want)
			not += count(!want)
		}
		add()
	}
	if are < 500 || not < 500 {
		t.Error("lists that are settlings, and that are none:", are, not)
	}
}

// TestP72SettlingCount: a list has a number for each span, and no other one.
func TestP72SettlingCount(t *testing.T) {
	for _, x := range []struct {
		percents []int
		is       bool
		e        api.Errno
	}{
		{list(100, 85, 70, 60), true, api.OK},
		{list(100, 85, 85, 60), true, api.OK},
		{list(100, 85, 86, 60), false, api.OK},
		{list(101, 85, 70, 60), false, api.OK},
		{list(100, 85, 70, math.MinInt), false, api.OK},
		{list(math.MaxInt, 85, 70, 60), false, api.OK},
		{list(100, 85, 70), false, api.ErrCount},
		{list(100, 85, 70, 60, 60), false, api.ErrCount},
		{list(), false, api.ErrCount},
		{nil, false, api.ErrCount},
	} {
		if is, e := tip.Settling(examples(), x.percents); is != x.is || e != x.e {
			t.Error(x, is, e)
		}
	}
}

// TestP72Left goes through all settlings of small tips, and all ages.
func TestP72Left(t *testing.T) {
	l := &luck{4}
	narrower := 0
	for range 600 {
		q := l.tip(small())
		want := slices.Repeat([]api.Span{span(101, -1)}, len(q.Settles))
		allSettlings(q.Settles, func(percents []int) {
			for age, p := range percents {
				want[age] = span(min(want[age].Lo, p), max(want[age].Hi, p))
			}
		})
		if !slices.Equal(want, leftOf(q.Settles)) {
			t.Fatal(q.Settles, want, leftOf(q.Settles))
		}
		for age := range tip.MaxDay + 1 {
			n := min(age, len(want)-1)
			if s, e := tip.Left(q, age); s != want[n] || e != api.OK {
				t.Fatal(q.Settles, age, s, e)
			}
			narrower += count(want[n] != q.Settles[n])
		}
	}
	if narrower < 200 {
		t.Error("ages of which fewer numbers are left than the span has:", narrower)
	}
}

// TestP72LeftLarge holds spans of all lengths against those of numbers that can follow each other.
func TestP72LeftLarge(t *testing.T) {
	l := &luck{5}
	for range 500 {
		q := plain()
		q.Settles = nil
		for range l.from(1, tip.MaxAges) {
			lo := l.from(0, 60)
			q.Settles = append(q.Settles, span(lo, l.from(lo, 100)))
		}
		want := leftOf(q.Settles)
		if want == nil {
			if s, e := tip.Left(q, 0); s != empty() || e != api.ErrClash {
				t.Fatal(q.Settles, s, e)
			}
			continue
		}
		for age, w := range want {
			if s, e := tip.Left(q, age); s != w || e != api.OK {
				t.Fatal(q.Settles, age, s, e)
			}
		}
	}
	for _, age := range list(-1, 61, math.MinInt, math.MaxInt) {
		if s, e := tip.Left(examples(), age); s != empty() || e != api.ErrRange {
			t.Error(age, s, e)
		}
	}
}

// TestP72With holds levels with settlings, each layer with its own one, against the sum of its layers.
func TestP72With(t *testing.T) {
	l := &luck{6}
	apart := 0
	for i := range 600 {
		q := l.tip([]size{large(), middle(), small()}[i%3])
		settlings := l.settlings(q)
		first := true
		for strip, s := range q.Strips {
			for _, day := range list(0, 1, 2, 3, 5, 8, 12, 30, 51, 55, 59, 60, l.from(0, 60)) {
				want := s.Base
				for i, layer := range q.Layers {
					if layer.Strip == strip {
						want += thicknessOf(q, layer, day, settlings[i])
					}
				}
				if n, e := tip.With(q, settlings, strip, day); n != want || e != api.OK {
					t.Fatal(q, settlings, strip, day, n, want, e)
				}
				if level := ask(q).level(strip, day); first && level.Lo < want && want < level.Hi {
					apart++
					first = false
				}
			}
		}
	}
	if apart < 100 {
		t.Error("tips with levels between their ends:", apart)
	}
}

// TestP72WithErrors spoils settlings of layers, also of those that do not count for the level.
func TestP72WithErrors(t *testing.T) {
	fine := list(100, 85, 80, 55)
	for i, x := range []struct {
		settlings  [][]int
		strip, day int
		want       int
		e          api.Errno
	}{
		{[][]int{fine, nil, fine}, 0, 0, 20, api.OK},
		{[][]int{fine, {}, fine}, 0, 1, 21, api.OK},
		{[][]int{fine, {}, fine}, 1, 0, 0, api.OK},
		{[][]int{fine, {}, fine}, 1, 60, 12, api.OK},
		{[][]int{fine, {0}, fine}, 1, 0, 0, api.ErrWrong},
		{[][]int{fine, fine, fine}, 1, 0, 0, api.ErrWrong},
		{[][]int{fine, nil, fine[:3]}, 0, 0, 0, api.ErrWrong},
		{[][]int{fine, nil, nil}, 0, 0, 0, api.ErrWrong},
		{[][]int{fine, nil, {100, 85, 80, 55, 55}}, 0, 0, 0, api.ErrWrong},
		{[][]int{{100, 85, 86, 55}, nil, fine}, 1, 0, 0, api.ErrWrong},
		{[][]int{{100, 85, 80, 49}, nil, fine}, 1, 0, 0, api.ErrWrong},
		{[][]int{fine, nil}, 0, 0, 0, api.ErrCount},
		{[][]int{fine, fine, fine, fine}, 0, 0, 0, api.ErrCount},
		{nil, 0, 60, 0, api.ErrCount},
		{nil, 0, 61, 0, api.ErrRange},
		{nil, 1, -1, 0, api.ErrRange},
		{nil, 0, math.MinInt, 0, api.ErrRange},
		{nil, 2, -1, 0, api.ErrNoSuch},
		{nil, -1, 61, 0, api.ErrNoSuch},
		{nil, math.MaxInt, 0, 0, api.ErrNoSuch},
	} {
		if n, e := tip.With(examples(), x.settlings, x.strip, x.day); n != x.want || e != x.e {
			t.Error(i, n, e)
		}
	}
}

// TestP72Thickness: the height and what is left of it are rounded up, each by itself; covers are as thick on each day.
func TestP72Thickness(t *testing.T) {
	q := plain()
	q.Settles, q.Soil = []api.Span{span(0, 100), span(0, 100)}, 9
	for _, x := range []struct{ area, pounds, percent, want int }{
		{100, 100, 100, 1},
		{100, 101, 100, 2},
		{100, 1, 100, 1},
		{100, 1, 1, 1},
		{100, 1, 0, 0},
		{100, 101, 50, 1},
		{100, 101, 51, 2},
		{1, 2000, 100, 2000},
		{1, 1999, 99, 1980},
		{200, 2000, 91, 10},
		{3, 2000, 33, 221},
	} {
		q.Strips[0].Area = x.area
		q.Layers = []tip.Layer{{Pounds: x.pounds}, {Cover: true}}
		for day, percent := range list(100, x.percent, x.percent) {
			want := 9 + part(part(x.pounds, 1, x.area), percent, 100)
			if day > 0 && want != 9+x.want {
				t.Error(x, want)
			}
			if n, e := tip.With(q, [][]int{{100, x.percent}, nil}, 0, day); n != want || e != api.OK {
				t.Error(x, day, n, want, e)
			}
		}
	}
}
