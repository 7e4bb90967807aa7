package tip_test

import (
	"math"
	"slices"
	"testing"

	"laystall/api"
	"laystall/tip"
)

// dense returns a tip with many layers on few days, so that waste and covers meet.
func (l *luck) dense() tip.Tip {
	q := l.tip(large())
	first, last := 0, l.from(2, 14)
	if l.below(3) == 0 {
		first, last = tip.MaxDay-last, tip.MaxDay
	}
	q.Layers = nil
	var days []int
	for range max(l.from(0, tip.MaxLayers), l.from(0, tip.MaxLayers)) {
		days = append(days, l.from(first, last))
	}
	slices.Sort(days)
	for _, day := range days {
		layer := tip.Layer{Strip: l.below(len(q.Strips)), Day: day, Pounds: l.pounds()}
		if l.below(2) == 0 {
			layer.Pounds, layer.Cover = 0, true
		}
		q.Layers = append(q.Layers, layer)
	}
	return q
}

// TestP76Late holds what is late against all covers behind each waste.
func TestP76Late(t *testing.T) {
	l := &luck{14}
	late, covers := 0, 0
	for range 3000 {
		q := l.dense()
		want := lateOf(q)
		if got, e := tip.Late(q); !slices.Equal(got, want) || e != api.OK {
			t.Fatal(q, got, want, e)
		}
		late += len(want)
		for i, layer := range q.Layers {
			covers += count(!layer.Cover && coveredOf(q, i))
		}
	}
	if late < 1000 || covers < 1000 {
		t.Error("waste that is late, and that is not:", late, covers)
	}
}

// TestP76LateEdges: a cover of the same day counts behind the waste alone, and on its strip alone, up to the last day.
func TestP76LateEdges(t *testing.T) {
	waste := func(strip, day int) tip.Layer { return tip.Layer{Strip: strip, Day: day, Pounds: 1} }
	cover := func(strip, day int) tip.Layer { return tip.Layer{Strip: strip, Day: day, Cover: true} }
	for i, x := range []struct {
		open   int
		layers []tip.Layer
		want   []int
	}{
		{0, nil, nil},
		{0, []tip.Layer{waste(0, 3), cover(0, 3)}, nil},
		{0, []tip.Layer{cover(0, 3), waste(0, 3)}, list(1)},
		{0, []tip.Layer{cover(0, 3), waste(0, 3), cover(0, 3)}, nil},
		{0, []tip.Layer{waste(0, 3), cover(0, 3), waste(0, 3), waste(0, 3), cover(0, 4)}, list(2, 3)},
		{0, []tip.Layer{waste(0, 3), cover(1, 3)}, list(0)},
		{2, []tip.Layer{waste(0, 3), waste(1, 4), cover(0, 5), cover(1, 7)}, list(1)},
		{2, []tip.Layer{waste(0, 3), waste(1, 4), cover(0, 6), cover(1, 6)}, list(0)},
		{9, []tip.Layer{waste(0, 0), waste(0, 1), cover(0, 10)}, list(0)},
		{9, []tip.Layer{waste(0, 51), waste(1, 60), cover(0, 60), cover(1, 60)}, nil},
		{9, []tip.Layer{waste(0, 60)}, list(0)},
		{9, []tip.Layer{cover(0, 0), cover(1, 60)}, nil},
	} {
		q := examples()
		q.Open, q.Layers = x.open, x.layers
		if got, e := tip.Late(q); !slices.Equal(got, x.want) || e != api.OK {
			t.Error(i, got, e)
		}
	}
}

// greatestApart returns how many layers that are apart there can be, of all sets.
func greatestApart(t tip.Tip) int {
	var waste []int
	for i, l := range t.Layers {
		if !l.Cover {
			waste = append(waste, i)
		}
	}
	most := 0
	var add func(next int, set []int)
	add = func(next int, set []int) {
		most = max(most, len(set))
		for ; next < len(waste); next++ {
			if more := slices.Concat(set, waste[next:next+1]); areApart(t, more) {
				add(next+1, more)
			}
		}
	}
	add(0, nil)
	return most
}

// TestP76Covers: covers in place of all that there are cover all in time, and as many layers are apart, by days.
func TestP76Covers(t *testing.T) {
	l := &luck{15}
	fewer, none := 0, 0
	for i := range 1500 {
		q := l.dense()
		if i%3 == 0 {
			q = l.tip(large())
		}
		covers, e := tip.Covers(q)
		apart, f := tip.Apart(q)
		n, g := tip.ApartShows(q, apart)
		noError(t, e, f, g)
		waste := 0
		for _, layer := range q.Layers {
			waste += count(!layer.Cover)
		}
		for i, c := range covers {
			if !c.Cover || c.Pounds != 0 || !has(span(0, len(q.Strips)-1), c.Strip) || !has(span(0, tip.MaxDay), c.Day) {
				t.Fatal(q, covers)
			}
			if i > 0 && (c.Day < covers[i-1].Day || c.Day == covers[i-1].Day && c.Strip <= covers[i-1].Strip) {
				t.Fatal("order:", q, covers)
			}
		}
		if late := lateOf(covered(q, covers)); late != nil {
			t.Fatal(q, covers, late)
		}
		if !areApart(q, apart) || !slices.IsSorted(apart) || len(apart) != len(covers) || n != len(apart) || greatestApart(q) != len(apart) {
			t.Fatal(q, covers, apart, n)
		}
		fewer += count(len(covers) < waste)
		none += count(waste == 0 && covers == nil && apart == nil)
	}
	if fewer < 500 || none < 20 {
		t.Error("tips with fewer covers than waste, and without waste:", fewer, none)
	}
}

// TestP76Fewest goes through all sets of days of covers on one strip.
func TestP76Fewest(t *testing.T) {
	l := &luck{16}
	for range 300 {
		q := plain()
		q.Open = l.from(0, 4)
		first := list(0, 51)[l.below(2)]
		var days []int
		for range l.from(0, 6) {
			days = append(days, l.from(first, first+9))
		}
		slices.Sort(days)
		for _, day := range days {
			q.Layers = append(q.Layers, tip.Layer{Day: day, Pounds: 1})
		}
		fewest := math.MaxInt
		for set := range 1 << 10 {
			var covers []tip.Layer
			for i := range 10 {
				if set>>i&1 == 1 {
					covers = append(covers, tip.Layer{Day: min(first+i, tip.MaxDay), Cover: true})
				}
			}
			if len(covers) < fewest && lateOf(covered(q, covers)) == nil {
				fewest = len(covers)
			}
		}
		if covers, e := tip.Covers(q); len(covers) != fewest || e != api.OK {
			t.Fatal(q, covers, fewest, e)
		}
	}
}

// TestP76ApartShows goes through all pairs of layers, and some lists.
func TestP76ApartShows(t *testing.T) {
	l := &luck{17}
	apart, not := 0, 0
	for range 600 {
		q := l.dense()
		if len(q.Layers) == 0 {
			continue
		}
		for range 40 {
			var layers []int
			for range l.from(0, 4) {
				layers = append(layers, l.below(len(q.Layers)))
			}
			want, n := api.ErrWrong, 0
			if areApart(q, layers) {
				want, n = api.OK, len(layers)
			}
			if got, e := tip.ApartShows(q, layers); got != n || e != want {
				t.Fatal(q, layers, got, n, e, want)
			}
			apart += count(n > 1)
			not += count(want == api.ErrWrong)
		}
	}
	if apart < 500 || not < 500 {
		t.Error("lists of layers that are apart, and that are not:", apart, not)
	}
}

// TestP76ApartEdges: covers, the same layer, times that meet on their last day, the end of all days, and layers that do not exist.
func TestP76ApartEdges(t *testing.T) {
	q := examples()
	q.Open = 3
	q.Layers = []tip.Layer{{Day: 0, Pounds: 1}, {Strip: 1, Day: 1, Pounds: 1}, {Day: 3, Pounds: 1}, {Day: 4, Cover: true}, {Day: 4, Pounds: 1}, {Day: 59, Pounds: 1}, {Strip: 1, Day: 60, Pounds: 1}, {Day: 60, Pounds: 1}}
	for _, x := range []struct {
		layers []int
		want   int
		e      api.Errno
	}{
		{nil, 0, api.OK},
		{list(0), 1, api.OK},
		{list(0, 2), 0, api.ErrWrong},
		{list(2, 0), 0, api.ErrWrong},
		{list(0, 4), 2, api.OK},
		{list(4, 0), 2, api.OK},
		{list(2, 4), 0, api.ErrWrong},
		{list(0, 1), 2, api.OK},
		{list(0, 4, 1, 5, 6), 5, api.OK},
		{list(0, 4, 1, 5, 6, 2), 0, api.ErrWrong},
		{list(5, 7), 0, api.ErrWrong},
		{list(6, 7), 2, api.OK},
		{list(0, 0), 0, api.ErrWrong},
		{list(3), 0, api.ErrWrong},
		{list(0, 3), 0, api.ErrWrong},
		{list(3, 3, 8), 0, api.ErrNoSuch},
		{list(0, -1), 0, api.ErrNoSuch},
		{list(math.MaxInt), 0, api.ErrNoSuch},
		{list(math.MinInt, 0, 0), 0, api.ErrNoSuch},
		{slices.Repeat(list(0), 100000), 0, api.ErrWrong},
	} {
		if n, e := tip.ApartShows(q, x.layers); n != x.want || e != x.e {
			t.Error(x.layers[:min(len(x.layers), 9)], n, e)
		}
	}
	if late, e := tip.Late(examples()); !slices.Equal(late, list(2)) || e != api.OK {
		t.Error(late, e)
	}
	covers, e := tip.Covers(examples())
	apart, f := tip.Apart(examples())
	if len(covers) != 2 || !slices.Equal(apart, list(0, 2)) || e != api.OK || f != api.OK {
		t.Error(covers, apart, e, f)
	}
}
