package lot_test

import (
	"math"
	"math/bits"
	"slices"
	"testing"

	"laystall/api"
	"laystall/lot"
)

// told asks all that is told of a lot, and holds it against what is to be told.
func told(t *testing.T, s lot.Store, sacks []int, foul api.Span, sure, brings int) {
	t.Helper()
	a, e := lot.Span(s, sacks)
	b, f := lot.Sure(s, sacks)
	c, g := lot.Brings(s, sacks)
	noError(t, e, f, g)
	if a != foul || b != sure || c != brings {
		t.Fatal(s, sacks, a, foul, b, sure, c, brings)
	}
}

// bad asks for a truth in which a lot has the most foul sacks, and holds it against how many these are.
func bad(t *testing.T, s lot.Store, sacks []int, most int) {
	t.Helper()
	foul, inside, e := lot.Bad(s, sacks)
	is, f := lot.Possible(s, sacks, foul, inside)
	noError(t, e, f)
	if !is || !isTruth(s, sacks, foul, inside) || total(inside) != most {
		t.Fatal(s, sacks, foul, inside, is, most)
	}
}

// isTruth reports whether two lists are a truth about a lot, by the words of the chapter.
func isTruth(s lot.Store, sacks, foul, inside []int) bool {
	if len(foul) != len(s.Pickings) || len(inside) != len(s.Pickings) {
		return false
	}
	for i, p := range s.Pickings {
		outside := foul[i] - inside[i]
		if !has(foulOf(p), foul[i]) || inside[i] < 0 || inside[i] > sacks[i] || outside < 0 || outside > p.Sacks-sacks[i] {
			return false
		}
	}
	return true
}

// TestP62Examples: the chapter's examples, and lots at the border of a grade.
func TestP62Examples(t *testing.T) {
	for _, x := range []struct {
		sacks        []int
		foul         api.Span
		sure, brings int
	}{
		{list(0, 6, 0), span(0, 1), 1, 36},
		{list(4, 6, 0), span(0, 3), 1, 60},
		{list(4, 6, 3), span(1, 5), lot.None, 0},
		{list(1, 3, 0), span(0, 2), lot.None, 0},
		{list(0, 6, 1), span(0, 2), 1, 42},
		{list(0, 4, 0), span(0, 1), 1, 24},
		{list(0, 3, 0), span(0, 1), lot.None, 0},
		{list(0, 0, 0), span(0, 0), lot.None, 0},
		{list(0, 0, 1), span(0, 1), lot.None, 0},
		{list(0, 0, 2), span(0, 2), lot.None, 0},
		{list(0, 0, 3), span(1, 2), lot.None, 0},
		{list(4, 5, 0), span(0, 3), lot.None, 0},
	} {
		told(t, examples(), x.sacks, x.foul, x.sure, x.brings)
		bad(t, examples(), x.sacks, x.foul.Hi)
	}
}

// TestP62Grades: of several grades that a lot surely has the first one counts; a grade that all lots have does not make anything of no sack.
func TestP62Grades(t *testing.T) {
	s := lot.Store{
		Pickings: []lot.Picking{{Sacks: 6, Worst: 6}, {Sacks: 6}, {Sacks: 1, Worst: 1, Opened: 1, Found: 1}},
		Grades:   []lot.Grade{{0, 100}, {50, 20}, {75, 7}, {100, 1}},
	}
	for _, x := range []struct {
		sacks        []int
		foul         api.Span
		sure, brings int
	}{
		{list(0, 6, 0), span(0, 0), 0, 600},
		{list(0, 1, 0), span(0, 0), 0, 100},
		{list(1, 1, 0), span(0, 1), 1, 40},
		{list(3, 3, 0), span(0, 3), 1, 120},
		{list(4, 3, 0), span(0, 4), 2, 49},
		{list(3, 1, 0), span(0, 3), 2, 28},
		{list(4, 1, 0), span(0, 4), 3, 5},
		{list(6, 0, 0), span(0, 6), 3, 6},
		{list(0, 0, 1), span(1, 1), 3, 1},
		{list(0, 1, 1), span(1, 1), 1, 40},
		{list(6, 6, 1), span(1, 7), 2, 91},
		{list(0, 0, 0), span(0, 0), lot.None, 0},
	} {
		told(t, s, x.sacks, x.foul, x.sure, x.brings)
		bad(t, s, x.sacks, x.foul.Hi)
	}
	s.Grades = nil
	told(t, s, list(0, 6, 0), span(0, 0), lot.None, 0)
}

// TestP62Sacks: what can be of a picking is what its sacks can be, one by one: which are foul, which were opened, and which are in the lot.
func TestP62Sacks(t *testing.T) {
	type part struct{ sacks, opened, found, lot, foul, inside int }
	can := map[part]bool{}
	for sacks := range lot.MaxSacks + 1 {
		for foul := range sacks + 1 {
			for opened := range 1 << sacks {
				for in := range 1 << sacks {
					bad := 1<<foul - 1
					can[part{sacks, bits.OnesCount(uint(opened)), bits.OnesCount(uint(opened & bad)), bits.OnesCount(uint(in)), foul, bits.OnesCount(uint(in & bad))}] = true
				}
			}
		}
	}
	for x := range can {
		// Only once for each picking and lot.
		if x.foul != x.found || x.inside != max(x.found-x.sacks+x.lot, 0) {
			continue
		}
		for worst := x.found; worst <= x.sacks; worst++ {
			s := lot.Store{Pickings: []lot.Picking{{Sacks: x.sacks, Worst: worst, Opened: x.opened, Found: x.found}}}
			least, most := x.sacks, 0
			for foul := -1; foul <= x.sacks+1; foul++ {
				for inside := -1; inside <= x.sacks+1; inside++ {
					want := foul <= worst && can[part{x.sacks, x.opened, x.found, x.lot, foul, inside}]
					if is, e := lot.Possible(s, list(x.lot), list(foul), list(inside)); is != want || e != api.OK {
						t.Fatal(s, x.lot, foul, inside, is, want, e)
					}
					if want {
						least, most = min(least, inside), max(most, inside)
					}
				}
			}
			told(t, s, list(x.lot), span(least, most), lot.None, 0)
			bad(t, s, list(x.lot), most)
		}
	}
}

// TestP62Truths goes through all truths about all lots of stores.
func TestP62Truths(t *testing.T) {
	l := &luck{1}
	sold := map[int]int{}
	for range 400 {
		s := l.store(middle())
		parts(stock(s), func(sacks []int) {
			least, most := total(sacks), 0
			var fits [lot.MaxGrades]bool
			for i := range s.Grades {
				fits[i] = total(sacks) > 0
			}
			truths(s, sacks, func(foul, inside []int) {
				n := total(inside)
				least, most = min(least, n), max(most, n)
				for i, g := range s.Grades {
					fits[i] = fits[i] && 100*n <= g.Foul*total(sacks)
				}
			})
			sure, brings := slices.Index(fits[:], true), 0
			if sure >= 0 {
				brings = total(sacks) * s.Grades[sure].Price
			}
			sold[sure]++
			told(t, s, sacks, span(least, most), sure, brings)
			bad(t, s, sacks, most)
		})
	}
	for grade := range lot.MaxGrades {
		if sold[grade] < 20 || sold[lot.None] < 20 {
			t.Fatal("lots by their grades:", sold)
		}
	}
}

// TestP62Large: lots of the greatest stores, by the words of the chapter, picking by picking.
func TestP62Large(t *testing.T) {
	l := &luck{2}
	for range 2000 {
		s := l.store(large())
		sacks := l.lot(s)
		foul := spanOf(s, sacks)
		sure, brings := sureOf(s, sacks)
		told(t, s, sacks, foul, sure, brings)
		bad(t, s, sacks, foul.Hi)
	}
}

// TestP62Possible: lists that are a truth about a lot, and that are not.
func TestP62Possible(t *testing.T) {
	for i, x := range []struct {
		sacks, foul, inside []int
		is                  bool
		e                   api.Errno
	}{
		{list(4, 6, 0), list(2, 1, 1), list(2, 1, 0), true, api.OK},
		{list(4, 6, 0), list(0, 0, 2), list(0, 0, 0), true, api.OK},
		{list(4, 6, 0), list(0, 0, 0), list(0, 0, 0), false, api.OK},
		{list(4, 6, 0), list(0, 0, 3), list(0, 0, 0), false, api.OK},
		{list(4, 6, 0), list(3, 0, 1), list(3, 0, 0), false, api.OK},
		{list(4, 6, 0), list(2, 0, 1), list(1, 0, 0), false, api.OK},
		{list(3, 6, 0), list(2, 0, 1), list(1, 0, 0), true, api.OK},
		{list(3, 6, 0), list(2, 0, 1), list(0, 0, 0), false, api.OK},
		{list(3, 6, 0), list(1, 0, 1), list(2, 0, 0), false, api.OK},
		{list(1, 6, 0), list(2, 0, 1), list(2, 0, 0), false, api.OK},
		{list(1, 6, 0), list(-1, 0, 1), list(-1, 0, 0), false, api.OK},
		{list(1, 6, 0), list(0, 0, 1), list(-1, 0, 0), false, api.OK},
		{list(1, 6, 0), list(math.MinInt, 0, 1), list(math.MaxInt, 0, 0), false, api.OK},
		{list(1, 6, 0), list(math.MaxInt, 0, 1), list(math.MinInt, 0, 0), false, api.OK},
		{list(1, 6, 0), list(0, 0, 1), list(math.MinInt, math.MinInt, 0), false, api.OK},
		{list(4, 6, 0), list(2, 1), list(2, 1, 0), false, api.ErrCount},
		{list(4, 6, 0), list(2, 1, 1), list(2, 1), false, api.ErrCount},
		{list(4, 6, 0), list(2, 1, 1, 0), list(2, 1, 0), false, api.ErrCount},
		{list(4, 6, 0), list(2, 1, 1), list(2, 1, 0, 0), false, api.ErrCount},
		{list(4, 6, 0), list(2, 1), list(2, 1), false, api.ErrCount},
		{list(4, 6, 0), nil, nil, false, api.ErrCount},
		{list(4, 7, 0), nil, nil, false, api.ErrRange},
		{list(4, 7), nil, nil, false, api.ErrCount},
	} {
		if is, e := lot.Possible(examples(), x.sacks, x.foul, x.inside); is != x.is || e != x.e {
			t.Error(i, is, e)
		}
	}
	l := &luck{3}
	yes := 0
	for range 5000 {
		s := l.store(large())
		sacks := l.lot(s)
		var foul, inside []int
		for i, p := range s.Pickings {
			f := foulOf(p)
			foul = append(foul, l.from(f.Lo, f.Hi)-count(l.below(20) == 0)+count(l.below(20) == 0))
			least, most := max(0, foul[i]-p.Sacks+sacks[i]), min(foul[i], sacks[i])
			inside = append(inside, least+l.below(max(most-least+1, 1))-count(l.below(20) == 0)+count(l.below(20) == 0))
		}
		want := isTruth(s, sacks, foul, inside)
		if is, e := lot.Possible(s, sacks, foul, inside); is != want || e != api.OK {
			t.Fatal(s, sacks, foul, inside, is, want, e)
		}
		yes += count(want)
	}
	if yes < 1000 || yes > 4800 {
		t.Error("truths:", yes)
	}
}

// TestP62Errors: lists that are no lot.
func TestP62Errors(t *testing.T) {
	for _, x := range []struct {
		sacks []int
		e     api.Errno
	}{
		{nil, api.ErrCount},
		{list(0, 0), api.ErrCount},
		{list(9, 9), api.ErrCount},
		{list(0, 0, 0, 0), api.ErrCount},
		{make([]int, 1000), api.ErrCount},
		{list(5, 0, 0), api.ErrRange},
		{list(0, 7, 0), api.ErrRange},
		{list(0, 0, 4), api.ErrRange},
		{list(0, 0, -1), api.ErrRange},
		{list(math.MinInt, 0, 0), api.ErrRange},
		{list(0, math.MaxInt, math.MaxInt), api.ErrRange},
	} {
		a, e := lot.Span(examples(), x.sacks)
		foul, inside, f := lot.Bad(examples(), x.sacks)
		b, g := lot.Sure(examples(), x.sacks)
		c, h := lot.Brings(examples(), x.sacks)
		if a != empty() || foul != nil || inside != nil || b != 0 || c != 0 || e != x.e || f != x.e || g != x.e || h != x.e {
			t.Error(x, a, foul, inside, b, c, e, f, g, h)
		}
	}
}
