package lot_test

import (
	"math"
	"math/bits"
	"slices"
	"testing"

	"laystall/api"
	"laystall/lot"
)

// canFind reports whether a buyer who opens some of so many sacks can find so many foul ones: the sacks are gone through.
func canFind(sacks, foul, opened, found int) bool {
	for sample := range uint(1) << sacks {
		if bits.OnesCount(sample) == opened && bits.OnesCount(sample&(1<<foul-1)) == found {
			return true
		}
	}
	return false
}

// leftOf returns how many foul sacks of a lot, and of each picking, there can be if only some numbers of foul sacks fit what a buyer found, by all truths; and whether there are some.
func leftOf(s lot.Store, sacks []int, fits func(foul int) bool) (left api.Span, told []api.Span, can bool) {
	told = make([]api.Span, len(s.Pickings))
	wider := func(s api.Span, n int) api.Span {
		if !can {
			return point(n)
		}
		return span(min(s.Lo, n), max(s.Hi, n))
	}
	truths(s, sacks, func(foul, inside []int) {
		if !fits(total(inside)) {
			return
		}
		left = wider(left, total(inside))
		for i, n := range foul {
			told[i] = wider(told[i], n)
		}
		can = true
	})
	return left, told, can
}

// TestP64KeptExamples: the chapter's example, and what a buyer cannot open, or not allow.
func TestP64KeptExamples(t *testing.T) {
	for _, x := range []struct {
		sacks        []int
		opened, most int
		is           bool
		e            api.Errno
	}{
		{list(4, 6, 0), 5, 3, true, api.OK},
		{list(4, 6, 0), 5, 2, false, api.OK},
		{list(4, 6, 0), 3, 2, false, api.OK},
		{list(4, 6, 0), 2, 2, true, api.OK},
		{list(4, 6, 0), 2, 1, false, api.OK},
		{list(4, 6, 0), 10, 3, true, api.OK},
		{list(4, 6, 0), 10, 2, false, api.OK},
		{list(4, 6, 0), 0, 0, true, api.OK},
		{list(4, 6, 0), 1, 0, false, api.OK},
		{list(4, 6, 0), 10, math.MaxInt, true, api.OK},
		{list(0, 0, 0), 0, 0, true, api.OK},
		{list(0, 0, 0), 1, 0, false, api.ErrRange},
		{list(4, 6, 0), 11, 11, false, api.ErrRange},
		{list(4, 6, 0), -1, 0, false, api.ErrRange},
		{list(4, 6, 0), 0, -1, false, api.ErrRange},
		{list(4, 6, 0), math.MaxInt, 0, false, api.ErrRange},
		{list(4, 6, 0), math.MinInt, math.MinInt, false, api.ErrRange},
		{list(4, 6, 4), 99, -1, false, api.ErrRange},
		{list(4, 6), 99, -1, false, api.ErrCount},
	} {
		if is, e := lot.Kept(examples(), x.sacks, x.opened, x.most); is != x.is || e != x.e {
			t.Error(x, is, e)
		}
	}
}

// TestP64Kept opens all samples of lots, in all truths.
func TestP64Kept(t *testing.T) {
	l := &luck{6}
	kept, back := 0, 0
	for range 150 {
		s := l.store(middle())
		sacks := l.lot(s)
		size := total(sacks)
		var most [lot.MaxPickings*lot.MaxSacks + 1]int
		seen := map[int]bool{}
		truths(s, sacks, func(foul, inside []int) {
			if seen[total(inside)] {
				return
			}
			seen[total(inside)] = true
			for sample := range uint(1) << size {
				opened := bits.OnesCount(sample)
				most[opened] = max(most[opened], bits.OnesCount(sample&(1<<total(inside)-1)))
			}
		})
		for opened := range size + 1 {
			for allowed := range opened + 2 {
				is, e := lot.Kept(s, sacks, opened, allowed)
				if is != (most[opened] <= allowed) || e != api.OK {
					t.Fatal(s, sacks, opened, allowed, is, e)
				}
				kept += count(is)
				back += count(!is)
			}
		}
	}
	if kept < 200 || back < 200 {
		t.Error("lots that are kept, and that can be sent back:", kept, back)
	}
}

// sampled asks what is left of a lot, and told of pickings, after a sample.
func sampled(t *testing.T, s lot.Store, sacks []int, opened, found int, left api.Span, told []api.Span, want api.Errno) {
	t.Helper()
	a, e := lot.Left(s, sacks, opened, found)
	b, f := lot.Tells(s, sacks, opened, found)
	if a != left || !slices.Equal(b, told) || e != want || f != want {
		t.Fatal(s, sacks, opened, found, a, left, b, told, e, f, want)
	}
}

// TestP64LeftExamples: the chapter's example, and samples that tell much, little, or what cannot be.
func TestP64LeftExamples(t *testing.T) {
	last := span(1, 2)
	for _, x := range []struct {
		sacks         []int
		opened, found int
		left          api.Span
		told          []api.Span
		e             api.Errno
	}{
		{list(4, 6, 0), 5, 3, point(3), []api.Span{point(2), point(1), last}, api.OK},
		{list(4, 6, 0), 5, 2, span(2, 3), []api.Span{span(1, 2), span(0, 1), last}, api.OK},
		{list(4, 6, 0), 5, 0, span(0, 3), []api.Span{span(0, 2), span(0, 1), last}, api.OK},
		{list(4, 6, 0), 8, 0, span(0, 2), []api.Span{span(0, 2), span(0, 1), last}, api.OK},
		{list(4, 6, 0), 9, 0, span(0, 1), []api.Span{span(0, 1), span(0, 1), last}, api.OK},
		{list(4, 6, 0), 10, 1, point(1), []api.Span{span(0, 1), span(0, 1), last}, api.OK},
		{list(4, 6, 0), 10, 2, point(2), []api.Span{span(1, 2), span(0, 1), last}, api.OK},
		{list(4, 6, 0), 0, 0, span(0, 3), []api.Span{span(0, 2), span(0, 1), last}, api.OK},
		{list(3, 0, 0), 3, 0, point(0), []api.Span{span(0, 1), span(0, 1), last}, api.OK},
		{list(2, 0, 0), 2, 2, point(2), []api.Span{point(2), span(0, 1), last}, api.OK},
		{list(0, 0, 3), 1, 1, span(1, 2), []api.Span{span(0, 2), span(0, 1), last}, api.OK},
		{list(0, 0, 3), 2, 0, point(1), []api.Span{span(0, 2), span(0, 1), point(1)}, api.OK},
		{list(0, 0, 0), 0, 0, point(0), []api.Span{span(0, 2), span(0, 1), last}, api.OK},
		{list(0, 0, 3), 3, 0, empty(), nil, api.ErrClash},
		{list(0, 0, 3), 3, 3, empty(), nil, api.ErrClash},
		{list(4, 6, 0), 4, 4, empty(), nil, api.ErrClash},
		{list(4, 6, 0), 11, 0, empty(), nil, api.ErrRange},
		{list(4, 6, 0), -1, 0, empty(), nil, api.ErrRange},
		{list(4, 6, 0), 3, 4, empty(), nil, api.ErrRange},
		{list(4, 6, 0), 3, -1, empty(), nil, api.ErrRange},
		{list(4, 6, 0), math.MaxInt, math.MaxInt, empty(), nil, api.ErrRange},
		{list(4, 6, 0), math.MinInt, math.MinInt, empty(), nil, api.ErrRange},
		{list(4, 6, 0), 10, math.MaxInt, empty(), nil, api.ErrRange},
		{list(4, 6, 0), 10, math.MinInt, empty(), nil, api.ErrRange},
		{list(0, 0, 0), 1, 0, empty(), nil, api.ErrRange},
		{list(0, 0, 4), 3, 4, empty(), nil, api.ErrRange},
		{list(0, 0), 3, 4, empty(), nil, api.ErrCount},
	} {
		sampled(t, examples(), x.sacks, x.opened, x.found, x.left, x.told, x.e)
	}
}

// TestP64Left goes through all samples of lots, and all truths.
func TestP64Left(t *testing.T) {
	l := &luck{7}
	clashes, news := 0, 0
	for range 150 {
		s := l.store(middle())
		sacks := l.lot(s)
		before, all, _ := leftOf(s, sacks, func(int) bool { return true })
		for opened := range total(sacks) + 1 {
			for found := range opened + 1 {
				left, told, can := leftOf(s, sacks, func(foul int) bool { return canFind(total(sacks), foul, opened, found) })
				if !can {
					clashes++
					sampled(t, s, sacks, opened, found, empty(), nil, api.ErrClash)
					continue
				}
				sampled(t, s, sacks, opened, found, left, told, api.OK)
				news += count(left != before && !slices.Equal(told, all))
			}
		}
	}
	if clashes < 200 || news < 200 {
		t.Error("samples that cannot be, and that tell something:", clashes, news)
	}
}

// TestP64LeftLarge: samples of great lots, few of whose sacks are foul.
func TestP64LeftLarge(t *testing.T) {
	l := &luck{8}
	clashes := 0
	for range 300 {
		s := l.store(large())
		for i := range s.Pickings {
			s.Pickings[i].Worst = max(min(s.Pickings[i].Worst, 2), s.Pickings[i].Found)
		}
		sacks := l.lot(s)
		opened := l.from(0, total(sacks))
		found := l.from(0, min(opened, 4))
		left, told, can := leftOf(s, sacks, func(foul int) bool { return found <= foul && opened-found <= total(sacks)-foul })
		if can {
			sampled(t, s, sacks, opened, found, left, told, api.OK)
			continue
		}
		clashes++
		sampled(t, s, sacks, opened, found, empty(), nil, api.ErrClash)
	}
	if clashes < 30 || clashes > 270 {
		t.Error("samples that cannot be:", clashes)
	}
}
