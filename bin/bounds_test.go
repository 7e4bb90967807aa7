package bin_test

import (
	"slices"
	"testing"

	"laystall/api"
	"laystall/bin"
)

// TestP23Examples are those of the chapter.
func TestP23Examples(t *testing.T) {
	for i, x := range []struct {
		r     bin.Row
		holds []api.Span
		all   api.Span
	}{
		{examples(), []api.Span{span(30, 60), span(10, 70), span(8, 12)}, span(48, 142)},
		{examples(first()), []api.Span{span(30, 54), span(10, 34), span(8, 12)}, span(64, 76)},
		{examples(second()), []api.Span{span(30, 60), span(38, 42), span(8, 12)}, span(80, 110)},
	} {
		holds, e := bin.Holds(x.r)
		all, f := bin.Sum(x.r, 0, 2)
		if !slices.Equal(holds, x.holds) || all != x.all || e != api.OK || f != api.OK {
			t.Error(i, holds, all, e, f)
		}
	}
	if s, e := bin.Sum(examples(first(), second()), 0, 2); s != (api.Span{}) || e != api.ErrClash {
		t.Error(s, e)
	}
}

// TestP23AllContents: the bounds are those of all contents that fit.
func TestP23AllContents(t *testing.T) {
	l := &luck{4}
	clash := 0
	for range 1500 {
		r := l.row(small(), 3)
		all := fitting(r)
		holds, e := bin.Holds(r)
		if len(all) == 0 {
			clash++
			if holds != nil || e != api.ErrClash {
				t.Fatal(r, holds, e)
			}
			continue
		}
		noError(t, e)
		for _, p := range pairs(r) {
			want := held(all, p[0], p[1])
			if s, e := bin.Sum(r, p[0], p[1]); s != want || e != api.OK || p[0] == p[1] && holds[p[0]] != want {
				t.Fatal(r, p, s, e, holds, want)
			}
		}
	}
	if clash < 100 || clash > 1000 {
		t.Error("rows that clash:", clash)
	}
}

// TestP23Reach: contents that fit reach each bound.
func TestP23Reach(t *testing.T) {
	l := &luck{5}
	for range 500 {
		r := l.row(large(), 40)
		if _, e := bin.Truth(r); e != api.OK {
			continue
		}
		for _, p := range pairs(r) {
			s, e := bin.Sum(r, p[0], p[1])
			least, f := bin.Reach(r, p[0], p[1], false)
			greatest, g := bin.Reach(r, p[0], p[1], true)
			noError(t, e, f, g)
			if s != span(total(least[p[0]:p[1]+1]), total(greatest[p[0]:p[1]+1])) {
				t.Fatal(r, p, s, least, greatest)
			}
			for _, contents := range [][]int{least, greatest} {
				if is, e := bin.Fits(r, contents); !is || e != api.OK {
					t.Fatal(r, p, contents, e)
				}
			}
		}
	}
}

// TestP24Why: a walk shows each bound.
func TestP24Why(t *testing.T) {
	l := &luck{6}
	longest := 0
	for range 500 {
		r := l.row(large(), 40)
		if _, e := bin.Truth(r); e != api.OK {
			continue
		}
		for _, p := range pairs(r) {
			s, e := bin.Sum(r, p[0], p[1])
			noError(t, e)
			for most, want := range map[bool]int{false: s.Lo, true: s.Hi} {
				walk, e := bin.Why(r, p[0], p[1], most)
				n, f := bin.Shows(r, p[0], p[1], most, walk)
				if n != want || len(walk) < 1 || len(walk) > bin.MaxFacts || e != api.OK || f != api.OK {
					t.Fatal(r, p, s, walk, n, e, f)
				}
				longest = max(longest, len(walk))
			}
		}
	}
	if longest < 4 {
		t.Error("no walk is longer than", longest)
	}
}

// TestP24Examples are walks in the row of the chapter, and that of its example 2.
func TestP24Examples(t *testing.T) {
	r := examples(first(), second())
	for i, x := range []struct {
		from, to int
		most     bool
		walk     []bin.Fact
		n        int
		e        api.Errno
	}{
		{0, 0, true, []bin.Fact{ofWeighing(0, true), ofBin(1, false)}, 54, api.OK},
		{0, 0, true, []bin.Fact{ofBin(0, true)}, 60, api.OK},
		{0, 0, false, []bin.Fact{ofBin(0, false)}, 30, api.OK},
		{1, 1, false, []bin.Fact{ofBin(1, false)}, 10, api.OK},
		{0, 1, true, []bin.Fact{ofBin(0, true), ofBin(1, true)}, 130, api.OK},
		{0, 1, false, []bin.Fact{ofBin(1, false), ofBin(0, false)}, 40, api.OK},
		{0, 1, false, []bin.Fact{ofWeighing(0, false)}, 56, api.OK},
		{1, 1, true, []bin.Fact{ofWeighing(1, true), ofBin(2, false)}, 42, api.OK},
		{1, 1, false, []bin.Fact{ofBin(2, true), ofWeighing(1, false)}, 38, api.OK},
		{1, 1, false, []bin.Fact{ofWeighing(0, false), ofBin(0, true)}, -4, api.OK},
		// the round of example 3 on the way
		{0, 0, true, []bin.Fact{ofWeighing(0, true), ofBin(2, true), ofWeighing(1, false), ofBin(0, false), ofBin(0, true)}, 56, api.OK},
		{0, 1, false, []bin.Fact{ofBin(0, false), ofBin(1, false)}, 0, api.ErrWrong},
		{0, 1, true, []bin.Fact{ofBin(1, true), ofBin(0, true)}, 0, api.ErrWrong},
		{0, 0, true, []bin.Fact{ofBin(0, false)}, 0, api.ErrWrong},
		{0, 0, false, []bin.Fact{ofBin(0, true)}, 0, api.ErrWrong},
		{0, 1, true, []bin.Fact{ofBin(0, true)}, 0, api.ErrWrong},
		{0, 0, true, []bin.Fact{ofBin(0, true), ofBin(1, true)}, 0, api.ErrWrong},
		{0, 0, true, []bin.Fact{ofBin(1, true), ofBin(1, false), ofBin(0, true)}, 0, api.ErrWrong},
		{0, 0, true, nil, 0, api.ErrWrong},
	} {
		if n, e := bin.Shows(r, x.from, x.to, x.most, x.walk); n != x.n || e != x.e {
			t.Error(i, n, e)
		}
	}
	if walk, e := bin.Why(examples(first()), 0, 0, true); !slices.Equal(walk, []bin.Fact{ofWeighing(0, true), ofBin(1, false)}) || e != api.OK {
		t.Error(walk, e)
	}
}

// lead is where a fact leads by the words of the chapter, and its number.
func lead(r bin.Row, f bin.Fact) (from, to, number int) {
	front, behind, says := f.Index, f.Index+1, api.Span{}
	if f.Weighing {
		g := r.Weighings[f.Index]
		front, behind, says = g.From, g.To+1, span(g.Pounds-g.Error, g.Pounds+g.Error)
	} else {
		says = spansOf(r)[f.Index]
	}
	if f.Most {
		return front, behind, says.Hi
	}
	return behind, front, -says.Lo
}

// stroll returns facts that are a walk mostly.
func (l *luck) stroll(r bin.Row) []bin.Fact {
	var walk []bin.Fact
	place := l.below(len(r.Bins) + 1)
	for range 40 {
		f := bin.Fact{Index: l.below(len(r.Bins)), Most: l.below(2) == 0}
		if len(r.Weighings) > 0 && l.below(2) == 0 {
			f = bin.Fact{Weighing: true, Index: l.below(len(r.Weighings)), Most: f.Most}
		}
		from, to, _ := lead(r, f)
		if (from == place || l.below(100) == 0) && len(walk) < bin.MaxFacts {
			walk, place = append(walk, f), to
		}
	}
	return walk
}

// TestP24Walks: walks are told from other facts, in rows that clash and in rows that do not.
func TestP24Walks(t *testing.T) {
	l := &luck{7}
	walks, torn := 0, 0
	for range 20000 {
		r := l.row(large(), 3)
		walk := l.stroll(r)
		start, place, number := None, None, 0
		for i, f := range walk {
			from, to, n := lead(r, f)
			if i > 0 && from != place {
				start = None
				break
			}
			if i == 0 {
				start = from
			}
			place, number = to, number+n
		}
		contradicts := start != None && start == place && number < 0
		if is, e := bin.Contradicts(r, walk); is != contradicts || e != api.OK {
			t.Fatal(r, walk, is, e)
		}
		torn += count(contradicts)
		for _, p := range pairs(r) {
			for _, most := range []bool{false, true} {
				near, far, want := p[0], p[1]+1, number
				if !most {
					near, far, want = far, near, -number
				}
				n, e := bin.Shows(r, p[0], p[1], most, walk)
				shows := start == near && place == far
				if shows && (n != want || e != api.OK) || !shows && (n != 0 || e != api.ErrWrong) {
					t.Fatal(r, p, most, walk, n, e)
				}
				walks += count(shows)
			}
		}
	}
	if walks < 1000 || torn < 50 {
		t.Error("the test has too few walks:", walks, torn)
	}
}

// None is what has no place.
const None = bin.None

// TestP24Round: a walk contradicts in each row that clashes, and in no other one.
func TestP24Round(t *testing.T) {
	l := &luck{8}
	for range 1500 {
		r := l.row(small(), 3)
		walk, e := bin.Round(r)
		if len(fitting(r)) > 0 {
			if walk != nil || e != api.ErrNone {
				t.Fatal(r, walk, e)
			}
			continue
		}
		if is, f := bin.Contradicts(r, walk); !is || len(walk) > bin.MaxFacts || e != api.OK || f != api.OK {
			t.Fatal(r, walk, is, e, f)
		}
	}
	for range 1500 {
		r := l.row(large(), 5)
		walk, e := bin.Round(r)
		contents, f := bin.Truth(r)
		if e == api.OK {
			if is, g := bin.Contradicts(r, walk); !is || len(walk) > bin.MaxFacts || f != api.ErrClash || g != api.OK {
				t.Fatal(r, walk, is, f, g)
			}
			continue
		}
		if is, g := bin.Fits(r, contents); !is || e != api.ErrNone || f != api.OK || g != api.OK {
			t.Fatal(r, contents, is, e, f, g)
		}
	}
}

// TestP24RoundExample is the round of the chapter's example 3, begun at each of its facts.
func TestP24RoundExample(t *testing.T) {
	r := examples(first(), second())
	round := []bin.Fact{ofBin(0, false), ofWeighing(0, true), ofBin(2, true), ofWeighing(1, false)}
	for i := range round {
		turned := slices.Concat(round[i:], round[:i])
		if is, e := bin.Contradicts(r, turned); !is || e != api.OK {
			t.Error(turned, is, e)
		}
		if is, e := bin.Contradicts(r, turned[1:]); is || e != api.OK {
			t.Error(turned[1:], is, e)
		}
	}
	// With four pounds less its number is 0, which contradicts nothing.
	r.Weighings[1].Pounds = 46
	if is, e := bin.Contradicts(r, round); is || e != api.OK {
		t.Error(is, e)
	}
	if is, e := bin.Contradicts(r, nil); is || e != api.OK {
		t.Error(is, e)
	}
}
