package bin_test

import (
	"testing"

	"laystall/api"
	"laystall/bin"
)

// span is one from lo to hi.
func span(lo, hi int) api.Span { return api.Span{Lo: lo, Hi: hi} }

// examples is the row of the chapter's examples, with some weighings.
func examples(weighings ...bin.Weighing) bin.Row {
	return bin.Row{
		Bins: []bin.Bin{
			{Gets: [bin.Kinds]api.Span{span(5, 10), span(20, 40), {}}},
			{Gets: [bin.Kinds]api.Span{span(0, 20), span(10, 30), {}}},
			{Gets: [bin.Kinds]api.Span{span(4, 6), span(8, 12), {}}, Since: 2},
		},
		Days:      []bin.Kind{bin.Plain, bin.Plain, bin.Market},
		Weighings: weighings,
	}
}

// first and second are the weighings of the chapter's examples.
func first() bin.Weighing  { return bin.Weighing{To: 1, Pounds: 60, Error: 4} }
func second() bin.Weighing { return bin.Weighing{From: 1, To: 2, Pounds: 50} }

// ofBin and ofWeighing are facts.
func ofBin(i int, most bool) bin.Fact      { return bin.Fact{Index: i, Most: most} }
func ofWeighing(i int, most bool) bin.Fact { return bin.Fact{Weighing: true, Index: i, Most: most} }

// luck is a row of numbers that is the same in each run.
type luck struct{ state uint64 }

// below returns a number from 0 to n - 1.
func (l *luck) below(n int) int {
	l.state = l.state*6364136223846793005 + 1442695040888963407
	return int((l.state >> 33) % uint64(n))
}

// size tells how great the rows of a test are at most.
type size struct{ bins, days, get, weighings, error int }

// small is the size of rows of which all contents can be gone through, and large that of the greatest rows that there can be.
func small() size { return size{bins: 3, days: 2, get: 4, weighings: 3, error: 2} }
func large() size {
	return size{bins: bin.MaxBins, days: bin.MaxDays, get: bin.MaxGet, weighings: bin.MaxWeighings, error: bin.MaxError}
}

// row returns a valid row. Most of its weighings are right by one choice of contents; one of off weighings is not, or nearly.
func (l *luck) row(s size, off int) bin.Row {
	var r bin.Row
	for range l.below(s.days + 1) {
		r.Days = append(r.Days, bin.Kind(l.below(bin.Kinds)))
	}
	for range 1 + l.below(s.bins) {
		b := bin.Bin{Since: l.below(len(r.Days) + 1)}
		for kind := range b.Gets {
			lo := l.below(s.get + 1)
			b.Gets[kind] = span(lo, lo+l.below(s.get+1-lo))
		}
		r.Bins = append(r.Bins, b)
	}
	var contents []int
	for _, now := range spansOf(r) {
		contents = append(contents, now.Lo+l.below(now.Hi-now.Lo+1))
	}
	for range l.below(s.weighings + 1) {
		r.Weighings = append(r.Weighings, l.weighing(s, contents, off))
	}
	return r
}

// weighing returns one of bins that hold so much, and that can be wrong.
func (l *luck) weighing(s size, contents []int, off int) bin.Weighing {
	from := l.below(len(contents))
	to := from + l.below(len(contents)-from)
	g := bin.Weighing{From: from, To: to, Pounds: total(contents[from : to+1]), Error: l.below(s.error + 1)}
	g.Pounds += l.below(2*g.Error+1) - g.Error
	if l.below(off) == 0 {
		g.Pounds += l.below(3*s.error+1) - s.error
	}
	g.Pounds = min(max(g.Pounds, 0), bin.MaxPounds)
	return g
}

// total is the sum of numbers.
func total(numbers []int) int {
	sum := 0
	for _, n := range numbers {
		sum += n
	}
	return sum
}

// spansOf adds up the span of each bin, day after day.
func spansOf(r bin.Row) []api.Span {
	spans := make([]api.Span, len(r.Bins))
	for day, kind := range r.Days {
		for b := range r.Bins {
			if day >= r.Bins[b].Since {
				spans[b].Lo += r.Bins[b].Gets[kind].Lo
				spans[b].Hi += r.Bins[b].Gets[kind].Hi
			}
		}
	}
	return spans
}

// agrees reports whether a weighing agrees with contents, by the words of the chapter.
func agrees(g bin.Weighing, contents []int) bool {
	differ := total(contents[g.From:g.To+1]) - g.Pounds
	return max(differ, -differ) <= g.Error
}

// fitting goes through all contents in the spans of the bins, and returns those that fit.
func fitting(r bin.Row) [][]int {
	spans := spansOf(r)
	var list [][]int
	var fill func(contents []int)
	fill = func(contents []int) {
		if len(contents) < len(spans) {
			now := spans[len(contents)]
			for n := now.Lo; n <= now.Hi; n++ {
				fill(append(contents[:len(contents):len(contents)], n))
			}
			return
		}
		for _, g := range r.Weighings {
			if !agrees(g, contents) {
				return
			}
		}
		list = append(list, contents)
	}
	fill(nil)
	return list
}

// held returns the span of what bins hold together in some contents, of which there is at least one.
func held(list [][]int, from, to int) api.Span {
	n := total(list[0][from : to+1])
	s := span(n, n)
	for _, contents := range list {
		n := total(contents[from : to+1])
		s = span(min(s.Lo, n), max(s.Hi, n))
	}
	return s
}

// widthOf returns the sum of the widths of spans.
func widthOf(spans []api.Span) int {
	width := 0
	for _, s := range spans {
		width += s.Hi - s.Lo
	}
	return width
}

// pairs returns all bins from and to that a row has.
func pairs(r bin.Row) [][2]int {
	var list [][2]int
	for from := range r.Bins {
		for to := from; to < len(r.Bins); to++ {
			list = append(list, [2]int{from, to})
		}
	}
	return list
}

// noError fails a test if a call that has no reason for it returns an error.
func noError(t *testing.T, errors ...api.Errno) {
	t.Helper()
	for _, e := range errors {
		if e != api.OK {
			t.Fatal("error", e)
		}
	}
}
