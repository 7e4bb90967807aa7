package bin_test

import (
	"math"
	"slices"
	"testing"

	"laystall/api"
	"laystall/bin"
)

// TestP21RowsAtTheirLimits asks for each number of a row at its limits, and one beyond.
func TestP21RowsAtTheirLimits(t *testing.T) {
	for _, x := range []struct {
		name   string
		lo, hi int
		e      api.Errno
		set    func(r *bin.Row, n int)
	}{
		{"bins", 1, 6, api.ErrCount, func(r *bin.Row, n int) { r.Bins, r.Weighings = make([]bin.Bin, n), nil }},
		{"days", 3, 7, api.ErrCount, func(r *bin.Row, n int) { r.Days = append(r.Days, make([]bin.Kind, n-3)...) }},
		{"weighings", 0, 10, api.ErrCount, func(r *bin.Row, n int) { r.Weighings = make([]bin.Weighing, n) }},
		{"lo", 0, 50, api.ErrRange, func(r *bin.Row, n int) { r.Bins[2].Gets[bin.Wet] = span(n, 50) }},
		{"hi", 0, 50, api.ErrRange, func(r *bin.Row, n int) { r.Bins[1].Gets[bin.Plain] = span(0, n) }},
		{"lo not above hi", 0, 7, api.ErrRange, func(r *bin.Row, n int) { r.Bins[0].Gets[bin.Market] = span(n, 7) }},
		{"since", 0, 3, api.ErrRange, func(r *bin.Row, n int) { r.Bins[1].Since = n }},
		{"pounds", 0, 3000, api.ErrRange, func(r *bin.Row, n int) { r.Weighings[0].Pounds = n }},
		{"error", 0, 100, api.ErrRange, func(r *bin.Row, n int) { r.Weighings[0].Error = n }},
		{"kind", 0, 2, api.ErrNoSuch, func(r *bin.Row, n int) { r.Days[2] = bin.Kind(n) }},
		{"from", 0, 2, api.ErrNoSuch, func(r *bin.Row, n int) { r.Weighings[0] = bin.Weighing{From: n, To: 2} }},
		{"to", 0, 2, api.ErrNoSuch, func(r *bin.Row, n int) { r.Weighings[0].To = n }},
		{"from not behind to", 0, 1, api.ErrOrder, func(r *bin.Row, n int) { r.Weighings[0].From = n }},
	} {
		for _, n := range []int{x.lo - 1, x.lo, x.hi, x.hi + 1} {
			r := examples(first())
			if n < 0 && x.e == api.ErrCount || x.name == "days" && n < x.lo || x.name == "from not behind to" && n < 0 {
				continue // there are no such lists, or it is another error
			}
			x.set(&r, n)
			want := api.OK
			if n < x.lo || n > x.hi {
				want = x.e
			}
			if e := bin.Check(r); e != want {
				t.Error(x.name, n, e)
			}
		}
	}
	for _, huge := range []int{math.MinInt, math.MaxInt} {
		r := examples(bin.Weighing{From: huge, To: huge})
		if e := bin.Check(r); e != api.ErrNoSuch {
			t.Error(huge, e)
		}
	}
}

// TestP21ErrorsOfAllElements: all elements are asked for an error before any is asked for the next one.
func TestP21ErrorsOfAllElements(t *testing.T) {
	late := bin.Weighing{From: 1, To: 0}
	for i, x := range []struct {
		r bin.Row
		e api.Errno
	}{
		{examples(late, bin.Weighing{To: 3}), api.ErrNoSuch},
		{examples(late, bin.Weighing{To: 3}, bin.Weighing{Error: 101}), api.ErrRange},
		{examples(first(), second(), late), api.ErrOrder},
		{bin.Row{Bins: make([]bin.Bin, 2), Days: []bin.Kind{bin.Kinds}, Weighings: []bin.Weighing{{Pounds: -1}}}, api.ErrRange},
		{bin.Row{Bins: make([]bin.Bin, 2), Days: []bin.Kind{bin.Kinds}, Weighings: []bin.Weighing{late}}, api.ErrNoSuch},
		{bin.Row{Bins: []bin.Bin{{}, {Since: 1}}}, api.ErrRange},
		{bin.Row{}, api.ErrCount},
	} {
		if e := bin.Check(x.r); e != x.e {
			t.Error(i, e)
		}
	}
}

// TestP21Spans: the span of a bin is the sum of what it gets on each day from Since on.
func TestP21Spans(t *testing.T) {
	if l, e := bin.Spans(examples()); !slices.Equal(l, []api.Span{span(30, 60), span(10, 70), span(8, 12)}) || e != api.OK {
		t.Error(l, e)
	}
	kinds := bin.Row{
		Bins: []bin.Bin{{Gets: [bin.Kinds]api.Span{span(1, 2), span(10, 20), span(3, 50)}}},
		Days: []bin.Kind{bin.Wet, bin.Market, bin.Plain, bin.Market},
	}
	for since, want := range []api.Span{span(24, 92), span(21, 42), span(11, 22), span(10, 20), {}} {
		kinds.Bins[0].Since = since
		if l, e := bin.Spans(kinds); !slices.Equal(l, []api.Span{want}) || e != api.OK {
			t.Error(since, l, e)
		}
	}
	l := &luck{1}
	for range 500 {
		r := l.row(large(), 2)
		if spans, e := bin.Spans(r); !slices.Equal(spans, spansOf(r)) || e != api.OK {
			t.Fatal(r, spans, e)
		}
	}
}

// TestP22Fits: contents fit if they are in the spans of the bins, and all weighings agree with them.
func TestP22Fits(t *testing.T) {
	l := &luck{2}
	fit, not := 0, 0
	for range 500 {
		r := l.row(small(), 3)
		all := fitting(r)
		wide := r
		wide.Weighings = nil
		for _, contents := range fitting(wide) {
			for range 3 {
				want := slices.ContainsFunc(all, func(c []int) bool { return slices.Equal(c, contents) })
				if is, e := bin.Fits(r, contents); is != want || e != api.OK {
					t.Fatal(r, contents, is, e)
				}
				fit, not = fit+count(want), not+count(!want)
				contents[l.below(len(contents))] += l.below(5) - 2
			}
		}
	}
	if fit < 100 || not < 100 {
		t.Error("the test asks too few of both:", fit, not)
	}
}

// count is 1 for what is so.
func count(is bool) int {
	if is {
		return 1
	}
	return 0
}

// TestP22HugeContents: numbers whose sum does not fit an int are in no span.
func TestP22HugeContents(t *testing.T) {
	r := examples(first())
	for _, contents := range [][]int{
		{math.MaxInt, math.MaxInt, 10}, {math.MinInt, math.MinInt + 60, 10}, {math.MaxInt, math.MinInt + 61, 10}, {40, 20, math.MinInt},
	} {
		if is, e := bin.Fits(r, contents); is || e != api.OK {
			t.Error(contents, is, e)
		}
	}
	if is, e := bin.Fits(r, []int{40, 20, 10, 0}); is || e != api.ErrCount {
		t.Error(is, e)
	}
}

// TestP22Truth: contents are returned that fit, wherever there are any.
func TestP22Truth(t *testing.T) {
	l := &luck{3}
	for range 1000 {
		r := l.row(small(), 3)
		contents, e := bin.Truth(r)
		if all := fitting(r); len(all) == 0 {
			if contents != nil || e != api.ErrClash {
				t.Fatal(r, contents, e)
			}
			continue
		}
		if is, f := bin.Fits(r, contents); !is || e != api.OK || f != api.OK {
			t.Fatal(r, contents, e, f)
		}
	}
}
