package bin_test

import (
	"math"
	"reflect"
	"slices"
	"testing"

	"laystall/api"
	"laystall/bin"
)

// bounds are those of all bins from and to of a row, and whether it does not clash.
func bounds(t *testing.T, r bin.Row) (map[[2]int]api.Span, bool) {
	t.Helper()
	all := map[[2]int]api.Span{}
	for _, p := range pairs(r) {
		s, e := bin.Sum(r, p[0], p[1])
		if e == api.ErrClash {
			return nil, false
		}
		noError(t, e)
		all[p] = s
	}
	return all, true
}

// inside reports whether a span has no number that another one has not.
func inside(s, other api.Span) bool { return other.Lo <= s.Lo && s.Lo <= s.Hi && s.Hi <= other.Hi }

// TestP28OneWeighingMore: it never makes a bound wider, nor takes back that a row clashes; whoever takes one away learns no more.
func TestP28OneWeighingMore(t *testing.T) {
	l := &luck{16}
	tighter := 0
	for range 500 {
		r := l.row(large(), 10)
		with, fit := bounds(t, r)
		for i := range r.Weighings {
			without, before := bounds(t, only(r, lacking(indices(r), i)))
			if fit && !before {
				t.Fatal(r, i)
			}
			for p, s := range with {
				if !inside(s, without[p]) {
					t.Fatal(r, i, p, s, without[p])
				}
				tighter += count(s != without[p])
			}
		}
	}
	if tighter < 100 {
		t.Error("bounds that a weighing has made tighter:", tighter)
	}
}

// TestP28ContentsAndWalks: each bound is reached by contents that fit, and a walk shows it; where no contents fit, a walk contradicts that has a fact of a weighing.
func TestP28ContentsAndWalks(t *testing.T) {
	l := &luck{17}
	for i := range 600 {
		r := l.row(large(), 1+i%40)
		all, fit := bounds(t, r)
		if !fit {
			round, e := bin.Round(r)
			noError(t, e)
			if !slices.ContainsFunc(round, func(f bin.Fact) bool { return f.Weighing }) {
				t.Fatal(r, round)
			}
			continue
		}
		for p, s := range all {
			for most, want := range map[bool]int{false: s.Lo, true: s.Hi} {
				contents, e := bin.Reach(r, p[0], p[1], most)
				walk, f := bin.Why(r, p[0], p[1], most)
				n, g := bin.Shows(r, p[0], p[1], most, walk)
				is, h := bin.Fits(r, contents)
				noError(t, e, f, g, h)
				if !is || n != want || total(contents[p[0]:p[1]+1]) != want {
					t.Fatal(r, p, most, contents, walk, n, want)
				}
			}
		}
	}
}

// TestP28Parts: bins hold together at most what their parts hold at most, and at least what these hold at least.
func TestP28Parts(t *testing.T) {
	l := &luck{18}
	for range 500 {
		r := l.row(large(), 40)
		all, fit := bounds(t, r)
		if !fit {
			continue
		}
		for p, s := range all {
			for between := p[0]; between < p[1]; between++ {
				a, b := all[[2]int{p[0], between}], all[[2]int{between + 1, p[1]}]
				if !inside(s, span(a.Lo+b.Lo, a.Hi+b.Hi)) {
					t.Fatal(r, p, s, a, b)
				}
			}
		}
	}
}

// TestP28Width: after an exact weighing the width is not greater than before, whatever bins are weighed.
func TestP28Width(t *testing.T) {
	l := &luck{19}
	for range 200 {
		r := l.row(large(), 40)
		holds, e := bin.Holds(r)
		if e != api.OK {
			continue
		}
		_, _, next, e := bin.Next(r)
		noError(t, e)
		for _, p := range pairs(r) {
			width, e := bin.Settles(r, p[0], p[1])
			noError(t, e)
			if width > widthOf(holds) || width < next {
				t.Fatal(r, p, width, next, holds)
			}
		}
	}
}

// mirrored is a row that is seen from its other end.
func mirrored(r bin.Row) bin.Row {
	m := bin.Row{Bins: slices.Clone(r.Bins), Days: r.Days}
	slices.Reverse(m.Bins)
	last := len(r.Bins) - 1
	for _, g := range r.Weighings {
		m.Weighings = append(m.Weighings, bin.Weighing{From: last - g.To, To: last - g.From, Pounds: g.Pounds, Error: g.Error})
	}
	return m
}

// TestP28Mirror: in a row that is seen from its other end all bounds are the same, and the same weighings are wrong.
func TestP28Mirror(t *testing.T) {
	l := &luck{20}
	for i := range 500 {
		r := l.row(large(), 2+i%30)
		m := mirrored(r)
		last := len(r.Bins) - 1
		here, a := bounds(t, r)
		there, b := bounds(t, m)
		if a != b {
			t.Fatal(r, a, b)
		}
		for p, s := range here {
			q := [2]int{last - p[1], last - p[0]}
			if there[q] != s {
				t.Fatal(r, p, s, there[q])
			}
			x, e := bin.Settles(r, p[0], p[1])
			y, f := bin.Settles(m, q[0], q[1])
			if x != y || e != f {
				t.Fatal(r, p, x, y, e, f)
			}
		}
		few, e := bin.Fewest(r)
		same, f := bin.Fewest(m)
		if !slices.Equal(few, same) || e != f {
			t.Fatal(r, few, same)
		}
	}
}

// strange returns a number that is an ordinary one, one at a limit, or any.
func (l *luck) strange() int {
	edges := [...]int{math.MinInt, math.MinInt + 1, -2, -1, 0, 1, 2, 3, 5, 6, 7, 8, 50, 51, 100, 101, 3000, 3001, math.MaxInt - 1, math.MaxInt}
	if l.below(12) > 0 {
		return l.below(3)
	}
	return edges[l.below(len(edges))]
}

// strangeRow returns a row that can be wrong in every place.
func (l *luck) strangeRow() bin.Row {
	r := l.row(large(), 5)
	odd := func(n *int) {
		if l.below(60) == 0 {
			*n = l.strange()
		}
	}
	for i := range r.Bins {
		b := &r.Bins[i]
		odd(&b.Since)
		for kind := range b.Gets {
			odd(&b.Gets[kind].Lo)
			odd(&b.Gets[kind].Hi)
		}
	}
	for i := range r.Weighings {
		g := &r.Weighings[i]
		for _, n := range []*int{&g.From, &g.To, &g.Pounds, &g.Error} {
			odd(n)
		}
	}
	for i := range r.Days {
		odd((*int)(&r.Days[i]))
	}
	switch l.below(20) {
	case 0:
		r.Bins = make([]bin.Bin, l.below(10))
	case 1:
		r.Days = make([]bin.Kind, l.below(10))
	case 2:
		r.Weighings = make([]bin.Weighing, l.below(13))
	}
	return r
}

// strangeQuestion returns a question that can be wrong in every place.
func (l *luck) strangeQuestion() question {
	q := question{row: l.strangeRow(), kind: bin.Kind(l.strange()), most: l.below(2) == 0}
	for _, n := range []*int{&q.from, &q.to, &q.bin, &q.pounds} {
		*n = l.strange()
	}
	for range l.below(8) {
		q.contents = append(q.contents, l.strange())
	}
	for range 2 + l.below(3) {
		q.chances = append(q.chances, l.strange())
	}
	for range l.below(24) {
		q.walk = append(q.walk, bin.Fact{Weighing: l.below(2) == 0, Index: l.strange(), Most: l.below(2) == 0})
	}
	return q
}

// copied returns a question that shares no memory with another one.
func copied(q question) question {
	q.row = bin.Row{Bins: slices.Clone(q.row.Bins), Days: slices.Clone(q.row.Days), Weighings: slices.Clone(q.row.Weighings)}
	q.contents, q.chances, q.walk = slices.Clone(q.contents), slices.Clone(q.chances), slices.Clone(q.walk)
	return q
}

// answers returns what all functions say to a question.
func answers(q question) []any {
	var list []any
	say := func(x ...any) { list = append(list, x...) }
	two := func(x any, e api.Errno) { say(x, e) }
	say(bin.Check(q.row))
	two(bin.Spans(q.row))
	two(bin.Fits(q.row, q.contents))
	two(bin.Truth(q.row))
	two(bin.Sum(q.row, q.from, q.to))
	two(bin.Holds(q.row))
	two(bin.Reach(q.row, q.from, q.to, q.most))
	two(bin.Why(q.row, q.from, q.to, q.most))
	two(bin.Shows(q.row, q.from, q.to, q.most, q.walk))
	two(bin.Round(q.row))
	two(bin.Contradicts(q.row, q.walk))
	two(bin.Clash(q.row))
	two(bin.Fewest(q.row))
	two(bin.Settles(q.row, q.from, q.to))
	from, to, width, e := bin.Next(q.row)
	say(from, to, width, e)
	lo, hi, e := bin.Expect(q.row, q.bin, q.chances)
	say(lo, hi, e)
	two(bin.Until(q.row, q.bin, q.kind, q.pounds))
	return list
}

// TestP01: no question makes a function panic, change its arguments, or answer otherwise when it is asked again.
func TestP01(t *testing.T) {
	l := &luck{21}
	fine := 0
	for range 600 {
		q := l.strangeQuestion()
		before := copied(q)
		first := answers(q)
		fine += count(first[0] == api.OK)
		if !reflect.DeepEqual(q, before) {
			t.Fatal("changed:", before, q)
		}
		if again := answers(q); !reflect.DeepEqual(again, first) {
			t.Fatal(q, first, again)
		}
	}
	if fine < 100 || fine > 500 {
		t.Error("rows without an error:", fine)
	}
}

// TestR3NilAndEmpty: a list that is nil is the same as an empty one.
func TestR3NilAndEmpty(t *testing.T) {
	q := ordinary()
	q.row.Days, q.row.Weighings, q.row.Bins[2].Since = nil, nil, 0
	q.contents, q.chances, q.walk = nil, nil, nil
	first := answers(q)
	q.row.Days, q.row.Weighings = []bin.Kind{}, []bin.Weighing{}
	q.contents, q.chances, q.walk = []int{}, []int{}, []bin.Fact{}
	for i, x := range answers(q) {
		v, w := reflect.ValueOf(x), reflect.ValueOf(first[i])
		if v.Kind() == reflect.Slice && v.Len() == 0 && w.Len() == 0 {
			continue
		}
		if !reflect.DeepEqual(x, first[i]) {
			t.Error(i, x, first[i])
		}
	}
	if e := bin.Check(bin.Row{Bins: []bin.Bin{}}); e != api.ErrCount {
		t.Error(e)
	}
}

// TestR4Memory: who changes a result changes nothing of what was asked, nor of what is answered next.
func TestR4Memory(t *testing.T) {
	clashing := ordinary()
	clashing.row.Weighings = []bin.Weighing{first(), second()}
	for _, q := range []question{ordinary(), clashing} {
		before := copied(q)
		said := answers(q)
		for _, x := range answers(q) {
			switch r := x.(type) {
			case []api.Span:
				clear(r[:cap(r)])
			case []int:
				clear(r[:cap(r)])
			case []bin.Fact:
				clear(r[:cap(r)])
			}
		}
		if again := answers(q); !reflect.DeepEqual(again, said) || !reflect.DeepEqual(q, before) {
			t.Error(again, said)
		}
	}
}

// TestGreatestRows asks all functions of rows of the greatest size, of which no weighing is wrong, or all are.
func TestGreatestRows(t *testing.T) {
	right := bin.Row{Days: make([]bin.Kind, bin.MaxDays)}
	for range bin.MaxBins {
		right.Bins = append(right.Bins, bin.Bin{Gets: [bin.Kinds]api.Span{span(0, bin.MaxGet)}})
	}
	wrong := right
	for i := range bin.MaxWeighings {
		right.Weighings = append(right.Weighings, bin.Weighing{From: i % 2, To: 5, Pounds: 1000, Error: 100 - i})
		wrong.Weighings = append(wrong.Weighings, bin.Weighing{From: i % 6, To: i % 6, Pounds: 3000 - i})
	}
	for _, x := range []struct {
		r   bin.Row
		few []int
		e   api.Errno
	}{{right, nil, api.OK}, {wrong, indices(wrong), api.ErrClash}} {
		few, e := bin.Fewest(x.r)
		_, f := bin.Truth(x.r)
		_, _, _, g := bin.Next(x.r)
		if !slices.Equal(few, x.few) || e != api.OK || f != x.e || g != x.e {
			t.Error(few, e, f, g)
		}
	}
	// By its days alone each bin holds what it can have got, and all together 2100 pounds.
	right.Weighings = nil
	holds, e := bin.Holds(right)
	all, f := bin.Sum(right, 0, 5)
	if !slices.Equal(holds, slices.Repeat([]api.Span{span(0, 350)}, 6)) || all != span(0, 2100) || e != api.OK || f != api.OK {
		t.Error(holds, all, e, f)
	}
}
