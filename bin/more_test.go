package bin_test

import (
	"slices"
	"testing"

	"laystall/api"
	"laystall/bin"
)

// more is a row with an exact weighing more.
func more(r bin.Row, from, to, pounds int) bin.Row {
	r.Weighings = append(slices.Clone(r.Weighings), bin.Weighing{From: from, To: to, Pounds: pounds})
	return r
}

// left weighs bins exactly at each number of pounds that their spans allow, and one beyond, and returns the greatest width.
func left(t *testing.T, r bin.Row, from, to int) int {
	t.Helper()
	width, some := 0, false
	can := api.Span{}
	for _, s := range spansOf(r)[from : to+1] {
		can = span(can.Lo+s.Lo, can.Hi+s.Hi)
	}
	for pounds := max(can.Lo-1, 0); pounds <= can.Hi+1; pounds++ {
		holds, e := bin.Holds(more(r, from, to, pounds))
		if e == api.OK {
			width, some = max(width, widthOf(holds)), true
		} else if e != api.ErrClash {
			t.Fatal(r, e)
		}
	}
	if !some {
		t.Fatal(r, "no exact weighing")
	}
	return width
}

// TestP26Examples are that of the chapter, and rows in which several weighings settle as much.
func TestP26Examples(t *testing.T) {
	alike := bin.Row{Bins: slices.Repeat([]bin.Bin{{Gets: [bin.Kinds]api.Span{span(2, 9)}}}, 3), Days: []bin.Kind{bin.Plain}}
	for i, x := range []struct {
		r               bin.Row
		from, to, width int
		all             int // of Settles of all bins
	}{
		{examples(first()), 0, 0, 12, 52},
		{examples(), 1, 1, 34, 68},
		{examples(second()), 0, 0, 8, 8},
		{examples(bin.Weighing{To: 2, Pounds: 48}), 0, 0, 0, 0},
		{alike, 0, 0, 14, 21},
		{bin.Row{Bins: make([]bin.Bin, 6)}, 0, 0, 0, 0},
	} {
		from, to, width, e := bin.Next(x.r)
		all, f := bin.Settles(x.r, 0, len(x.r.Bins)-1)
		if from != x.from || to != x.to || width != x.width || all != x.all || e != api.OK || f != api.OK {
			t.Error(i, from, to, width, all, e, f)
		}
	}
}

// TestP26SmallRows: the width that can be left is that of all contents that fit.
func TestP26SmallRows(t *testing.T) {
	l := &luck{11}
	for range 500 {
		r := l.row(small(), 10)
		all := fitting(r)
		if len(all) == 0 {
			continue
		}
		for _, p := range pairs(r) {
			want := 0
			can := held(all, p[0], p[1])
			for pounds := can.Lo; pounds <= can.Hi; pounds++ {
				exact := slices.DeleteFunc(slices.Clone(all), func(c []int) bool { return total(c[p[0]:p[1]+1]) != pounds })
				var spans []api.Span
				for b := range r.Bins {
					spans = append(spans, held(exact, b, b))
				}
				want = max(want, widthOf(spans))
			}
			if width, e := bin.Settles(r, p[0], p[1]); width != want || e != api.OK {
				t.Fatal(r, p, width, e, want)
			}
		}
	}
}

// TestP26LargeRows: the width that can be left is the greatest one with an exact weighing more, and Next has the least one.
func TestP26LargeRows(t *testing.T) {
	l := &luck{12}
	asked := 0
	for range 40 {
		r := l.row(large(), 100)
		if len(r.Weighings) == bin.MaxWeighings {
			r.Weighings = r.Weighings[1:]
		}
		if _, e := bin.Truth(r); e != api.OK {
			continue
		}
		asked++
		var best [2]int
		least := -1
		for _, p := range pairs(r) {
			want := left(t, r, p[0], p[1])
			if width, e := bin.Settles(r, p[0], p[1]); width != want || e != api.OK {
				t.Fatal(r, p, width, e, want)
			}
			if least < 0 || want < least {
				best, least = p, want
			}
		}
		if from, to, width, e := bin.Next(r); from != best[0] || to != best[1] || width != least || e != api.OK {
			t.Fatal(r, from, to, width, e, best, least)
		}
	}
	if asked < 15 {
		t.Error("rows asked:", asked)
	}
}

// TestP26TenWeighings: a row that has all the weighings that it can have is told as it is with one of two equal ones.
func TestP26TenWeighings(t *testing.T) {
	l := &luck{13}
	for range 200 {
		r := l.row(large(), 100)
		if len(r.Weighings) == 0 || len(r.Weighings) == bin.MaxWeighings {
			continue
		}
		full := r
		for len(full.Weighings) < bin.MaxWeighings {
			full.Weighings = append(slices.Clone(full.Weighings), r.Weighings[0])
		}
		for _, p := range pairs(r) {
			a, e := bin.Settles(r, p[0], p[1])
			b, f := bin.Settles(full, p[0], p[1])
			if a != b || e != f {
				t.Fatal(r, p, a, e, b, f)
			}
		}
	}
}

// TestP27Expect: the fractions are in lowest terms, and those of the sums.
func TestP27Expect(t *testing.T) {
	r := examples(first())
	for i, x := range []struct {
		bin     int
		chances []int
		lo, hi  api.Ratio
	}{
		{2, []int{3, 1, 0}, api.Ratio{Num: 5, Den: 1}, api.Ratio{Num: 15, Den: 2}},
		{0, []int{1, 1, 1}, api.Ratio{Num: 25, Den: 3}, api.Ratio{Num: 50, Den: 3}},
		{1, []int{100, 100, 100}, api.Ratio{Num: 10, Den: 3}, api.Ratio{Num: 50, Den: 3}},
		{1, []int{5, 0, 0}, api.Ratio{Num: 0, Den: 1}, api.Ratio{Num: 20, Den: 1}},
	} {
		lo, hi, e := bin.Expect(r, x.bin, x.chances)
		if lo != x.lo || hi != x.hi || e != api.OK {
			t.Error(i, lo, hi, e)
		}
	}
	l := &luck{14}
	for range 1000 {
		r := l.row(large(), 2)
		b, chances, by := l.below(len(r.Bins)), []int{l.below(101), l.below(5), l.below(2)}, 0
		var sums [2]int
		for kind, chance := range chances {
			s := r.Bins[b].Gets[kind]
			by, sums[0], sums[1] = by+chance, sums[0]+chance*s.Lo, sums[1]+chance*s.Hi
		}
		if by == 0 {
			continue
		}
		lo, hi, e := bin.Expect(r, b, chances)
		noError(t, e)
		for i, f := range []api.Ratio{lo, hi} {
			if f.Num*by != sums[i]*f.Den || f.Den < 1 || common(f.Num, f.Den) != 1 {
				t.Fatal(r, b, chances, lo, hi)
			}
		}
	}
}

// common is the greatest number that divides two others, tried from above.
func common(a, b int) int {
	for n := max(a, b); ; n-- {
		if a%n == 0 && b%n == 0 {
			return n
		}
	}
}

// TestP27ExpectOfRowsThatClash: what is expected of a day to come is not asked of weighings.
func TestP27ExpectOfRowsThatClash(t *testing.T) {
	lo, hi, e := bin.Expect(examples(first(), second()), 2, []int{3, 1, 0})
	if lo != (api.Ratio{Num: 5, Den: 1}) || hi != (api.Ratio{Num: 15, Den: 2}) || e != api.OK {
		t.Error(lo, hi, e)
	}
}

// TestP27Until asks at each edge of the chapter's example.
func TestP27Until(t *testing.T) {
	r := examples(first())
	for i, x := range []struct {
		bin  int
		kind bin.Kind
		most int
		want api.Span
	}{
		{2, bin.Market, 30, span(2, 3)},
		{2, bin.Market, 7, span(0, 0)},
		{2, bin.Market, 8, span(0, 1)},
		{2, bin.Market, 11, span(0, 1)},
		{2, bin.Market, 12, span(1, 1)},
		{2, bin.Market, 16, span(1, 2)},
		{2, bin.Wet, 11, span(0, None)},
		{2, bin.Wet, 12, span(None, None)},
		{1, bin.Plain, 34, span(1, None)},
		{2, bin.Plain, 12 + 600 - 1, span(100, None)},
		{2, bin.Plain, 12 + 600, span(None, None)},
		{2, bin.Plain, 8 + 400 - 1, span(66, 100)},
		{2, bin.Plain, 8 + 400, span(67, None)},
	} {
		if s, e := bin.Until(r, x.bin, x.kind, x.most); s != x.want || e != api.OK {
			t.Error(i, s, e)
		}
	}
}

// TestP27UntilByDays adds up day after day what a bin can hold.
func TestP27UntilByDays(t *testing.T) {
	l := &luck{15}
	for range 2000 {
		r := l.row(large(), 40)
		holds, e := bin.Holds(r)
		if e != api.OK {
			continue
		}
		b, kind, most := l.below(len(r.Bins)), bin.Kind(l.below(bin.Kinds)), l.below(bin.MaxPounds+1)
		now, gets := holds[b], r.Bins[b].Gets[kind]
		want := span(None, None)
		for days := range bin.MaxMore + 1 {
			if want.Lo == None && now.Hi > most {
				want.Lo = days
			}
			if want.Hi == None && now.Lo > most {
				want.Hi = days
			}
			now.Lo, now.Hi = now.Lo+gets.Lo, now.Hi+gets.Hi
		}
		if s, e := bin.Until(r, b, kind, most); s != want || e != api.OK {
			t.Fatal(r, b, kind, most, s, e, want)
		}
	}
}
