package plaint_test

import (
	"slices"
	"testing"

	"laystall/api"
	"laystall/plaint"
)

// clashOf leaves words out, by the words of the chapter, of those that exclude each other.
func clashOf(words int, excludes func([]int) bool) []int {
	left := list()
	for i := range words {
		left = append(left, i)
	}
	for i := range words {
		at := slices.Index(left, i)
		if less := slices.Concat(left[:at], left[at+1:]); excludes(less) {
			left = less
		}
	}
	return left
}

// TestP94Examples: the chapter's example 3, and others by hand.
func TestP94Examples(t *testing.T) {
	lies := func(c plaint.Case, lies int) plaint.Case { c.Lies = lies; return c }
	early := examples(away(2, 0, 40), seen(1, 5, 5))
	apart := examples(seen(0, 30, 30), seen(1, 10, 10), away(2, 0, 40))
	pairs := told(quiet(triangle(), 40), 0, seen(0, 10, 10), seen(1, 10, 10), seen(2, 30, 30), seen(1, 30, 30), seen(0, 0, 0))
	late := told(quiet(triangle(), 30), 0, seen(0, 31, 40), passed(0, 21, 30), away(1, 31, 60))
	const d, s, u = plaint.Doubtful, plaint.Sure, plaint.Untrue
	for i, x := range []struct {
		c      plaint.Case
		trust  []plaint.Verdict
		fewest []int
		clash  []int
	}{
		{examples(), verdicts(s), nil, nil},
		{lies(examples(), 1), verdicts(d), nil, nil},
		{early, nil, list(2), list(2)},
		{lies(early, 1), verdicts(s, s, u), list(2), list(2)},
		{lies(early, 2), verdicts(d, d, u), list(2), list(2)},
		{apart, nil, list(0), list(0, 1)},
		{lies(apart, 1), verdicts(d, d, s, s), list(0), list(0, 1)},
		{pairs, nil, list(0, 2), list(2, 3)},
		{lies(pairs, 1), nil, list(0, 2), list(2, 3)},
		{lies(pairs, 2), verdicts(d, d, d, d, s), list(0, 2), list(2, 3)},
		{late, nil, list(0, 1), list(1)},
		{lies(late, 1), nil, list(0, 1), list(1)},
		{lies(late, 2), verdicts(u, u, s), list(0, 1), list(1)},
		{told(quiet(triangle(), 40), 5, away(0, 0, 0)), verdicts(d), nil, nil},
		{told(quiet(town(1), 40), 5, seen(0, 0, 0)), verdicts(s), nil, nil},
	} {
		e, f := api.OK, api.OK
		if x.trust == nil {
			e = api.ErrClash
		}
		if x.clash == nil {
			f = api.ErrNone
		}
		trust, g := plaint.Trust(x.c)
		fewest, h := plaint.Fewest(x.c)
		clash, k := plaint.Clash(x.c)
		if !slices.Equal(trust, x.trust) || g != e || !slices.Equal(fewest, x.fewest) || h != api.OK || !slices.Equal(clash, x.clash) || k != f {
			t.Error(i, trust, g, fewest, h, clash, k)
		}
	}
	trust, e := plaint.Trust(quiet(triangle(), 40))
	fewest, f := plaint.Fewest(quiet(triangle(), 40))
	clash, g := plaint.Clash(quiet(triangle(), 40))
	if len(trust) != 0 || e != api.OK || len(fewest) != 0 || f != api.OK || clash != nil || g != api.ErrNone {
		t.Error("no words:", trust, e, fewest, f, clash, g)
	}
}

// TestP94Excludes: words that exclude each other whatever the lies are; no words do not.
func TestP94Excludes(t *testing.T) {
	c := examples(seen(0, 30, 30), seen(1, 10, 10), away(2, 0, 40), seen(1, 9, 9))
	for lies := range plaint.MaxWords + 1 {
		c.Lies = lies
		for i, x := range []struct {
			words []int
			is    bool
			e     api.Errno
		}{
			{nil, false, api.OK},
			{list(), false, api.OK},
			{list(0), false, api.OK},
			{list(4), true, api.OK},
			{list(0, 1), true, api.OK},
			{list(1, 2, 3), false, api.OK},
			{list(1, 3), false, api.OK},
			{list(0, 2, 3), false, api.OK},
			{list(0, 1, 2, 3, 4), true, api.OK},
			{list(1, 0), false, api.ErrOrder},
			{list(0, 0), false, api.ErrOrder},
			{list(0, 2, 2, 3), false, api.ErrOrder},
			{list(5), false, api.ErrNoSuch},
			{list(-1), false, api.ErrNoSuch},
			{list(0, 1, 2, 3, 4, 5), false, api.ErrNoSuch},
			{list(0, 0, 5), false, api.ErrNoSuch},
		} {
			if is, e := plaint.Excludes(c, x.words); is != x.is || e != x.e {
				t.Error(lies, i, is, e)
			}
		}
	}
	if is, e := plaint.Excludes(quiet(town(1), 0), nil); is || e != api.OK {
		t.Error(is, e)
	}
}

// TestP94Every goes through all drives of small cases.
func TestP94Every(t *testing.T) {
	l := &luck{8}
	met := map[plaint.Verdict]int{}
	for range 200 {
		c := l.plaint(small())
		var all, fit [][]bool
		each(c, func(d tale) {
			all = append(all, d.truths(c.Words))
			if d.lies() <= c.Lies {
				fit = append(fit, d.truths(c.Words))
			}
		})
		trust, e := plaint.Trust(c)
		if (e == api.OK) != (len(fit) > 0) || e != api.OK && (e != api.ErrClash || trust != nil) {
			t.Fatal(c, trust, e)
		}
		for i, v := range trust {
			yes, no := 0, 0
			for _, truths := range fit {
				yes += count(truths[i])
				no += count(!truths[i])
			}
			if v != plaint.Doubtful && yes > 0 && no > 0 || v != plaint.Untrue && yes == 0 || v != plaint.Sure && no == 0 {
				t.Fatal(c, i, v, yes, no)
			}
			met[v]++
		}
		wordsAsWanted(t, c, func(words []int) bool {
			return !slices.ContainsFunc(all, func(truths []bool) bool {
				return !slices.ContainsFunc(words, func(i int) bool { return !truths[i] })
			})
		})
	}
	if met[0] < 20 || met[1] < 100 || met[2] < 20 {
		t.Error("verdicts of each kind:", met)
	}
}

// wordsAsWanted fails a test unless Excludes, Fewest and Clash are as it follows from which words exclude each other; it returns how many have to be untrue.
func wordsAsWanted(t *testing.T, c plaint.Case, excludes func(words []int) bool) int {
	t.Helper()
	all := lists(len(c.Words))
	var fewest []int
	found := false
	for _, words := range all {
		is, e := plaint.Excludes(c, words)
		if is != excludes(words) || e != api.OK {
			t.Fatal(c, words, is, e)
		}
		others := list()
		for i := range c.Words {
			if !slices.Contains(words, i) {
				others = append(others, i)
			}
		}
		if !found && !excludes(others) {
			fewest, found = words, true
		}
	}
	if got, e := plaint.Fewest(c); !slices.Equal(got, fewest) || e != api.OK {
		t.Fatal(c, got, fewest, e)
	}
	got, e := plaint.Clash(c)
	want := clashOf(len(c.Words), excludes)
	if len(fewest) == 0 && (got != nil || e != api.ErrNone) || len(fewest) > 0 && (!slices.Equal(got, want) || e != api.OK) {
		t.Fatal(c, got, want, e)
	}
	return len(fewest)
}

// TestP94Large asks cases of all sizes by all that can come of drives.
func TestP94Large(t *testing.T) {
	l := &luck{9}
	met, untrue := map[plaint.Verdict]int{}, map[int]int{}
	for i := range 300 {
		c := l.plaint(sizes(i))
		can := outcomesOf(c)
		untrue[wordsAsWanted(t, c, can.excludes)]++
		can = can.fitting()
		trust, e := plaint.Trust(c)
		if can.none() {
			if trust != nil || e != api.ErrClash {
				t.Fatal(c, trust, e)
			}
			continue
		}
		if want := can.trusted(); !slices.Equal(trust, want) || e != api.OK {
			t.Fatal(c, trust, want, e)
		}
		for _, v := range trust {
			met[v]++
		}
	}
	if met[0] < 100 || met[1] < 200 || met[2] < 30 || untrue[0] < 80 || untrue[1] < 40 || untrue[2] < 10 {
		t.Error("verdicts of each kind, and words that have to be untrue:", met, untrue)
	}
}
