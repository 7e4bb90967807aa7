package scale_test

import (
	"math"
	"slices"
	"testing"

	"laystall/api"
	"laystall/scale"
)

// TestP43Examples are those of the chapter, and bridges that change often, or never.
func TestP43Examples(t *testing.T) {
	mixed := examples(0)
	mixed.Proofs[0], mixed.Proofs[2] = mixed.Proofs[2], mixed.Proofs[0]
	edge := scale.Book{Proofs: []scale.Proof{{Minute: 0, Reads: 1}, {Minute: 1}, {Minute: 9999}, {Minute: 10000, Reads: -1}}}
	for i, x := range []struct {
		b      scale.Book
		bridge int
		when   []api.Span
	}{
		{examples(0), 0, []api.Span{span(51, 90)}},
		{examples(0), 1, nil},
		{mixed, 0, []api.Span{span(51, 90)}},
		{scale.Book{}, 0, nil},
		{proved(1, 7), 0, nil},
		{proved(1, 3, 4, 5), 0, nil},
		{proved(1, 3, 5, 7), 0, []api.Span{span(11, 30)}},
		{proved(0, 1, 2, 2, 3), 0, []api.Span{span(11, 20), span(31, 40)}},
		// The second change can be behind the third proof only if the first one is behind the first: 11 to 20.
		{proved(1, 1, 3, 5, 7, 9), 0, []api.Span{span(11, 30), span(31, 50)}},
		{proved(1, 1, 3, 5, 7, 9, 11), 0, []api.Span{span(21, 30), span(41, 50)}},
		{proved(0, 1, 0, 1, 0, 1, 0, 1, 0, 1, 0), 0, []api.Span{
			span(11, 20), span(21, 30), span(31, 40), span(41, 50), span(51, 60), span(61, 70), span(71, 80), span(81, 90), span(91, 100),
		}},
		{edge, 0, []api.Span{span(1, 1), span(10000, 10000)}},
	} {
		n, e := scale.Fewest(x.b, x.bridge)
		found, f := scale.Find(x.b, x.bridge)
		pairs, g := scale.Apart(x.b, x.bridge)
		noError(t, e, f, g)
		if n != len(x.when) || len(found.Changes) != n || len(pairs) != n {
			t.Error(i, n, found, pairs)
		}
		for change, want := range x.when {
			if s, e := scale.When(x.b, x.bridge, change); s != want || e != api.OK {
				t.Error(i, change, s, e)
			}
		}
		for _, change := range []int{-1, n, n + 1, math.MinInt, math.MaxInt} {
			if s, e := scale.When(x.b, x.bridge, change); s != span(0, 0) || e != api.ErrNone {
				t.Error(i, change, s, e)
			}
		}
	}
}

// TestP43Clash: a proof with an empty span leaves no drift, but for that of the other bridge.
func TestP43Clash(t *testing.T) {
	for _, b := range []scale.Book{proved(1, 52), proved(1, 3, 52), proved(0, -51, 5, 5), proved(49, 0, 100)} {
		n, e := scale.Fewest(b, 0)
		d, f := scale.Find(b, 0)
		pairs, g := scale.Apart(b, 0)
		s, h := scale.When(b, 0, 0)
		if n != 0 || d.First != 0 || d.Changes != nil || pairs != nil || s != span(0, 0) {
			t.Error(b, n, d, pairs, s)
		}
		if e != api.ErrClash || f != api.ErrClash || g != api.ErrClash || h != api.ErrClash {
			t.Error(b, e, f, g, h)
		}
		if n, e := scale.Fewest(b, 1); n != 0 || e != api.OK {
			t.Error(b, n, e)
		}
	}
}

// TestP43Definition: no fewer changes are enough, in all ways to part the proofs; the drift fits with as many, and as many pairs are apart.
func TestP43Definition(t *testing.T) {
	l := &luck{5}
	var seen [scale.MaxProofs]int
	for i := range 3000 {
		b := l.book([]size{large(), dense()}[i%2], 2+i%9)
		for bridge := range scale.Bridges {
			want := fewest(b, bridge)
			n, e := scale.Fewest(b, bridge)
			if want < 0 {
				if e != api.ErrClash {
					t.Fatal(b, bridge, n, e)
				}
				continue
			}
			seen[want]++
			found, f := scale.Find(b, bridge)
			is, g := scale.Fits(b, bridge, found)
			pairs, h := scale.Apart(b, bridge)
			so, k := scale.Proves(b, bridge, pairs)
			noError(t, e, f, g, h, k)
			if n != want || !is || len(found.Changes) != n || !so || len(pairs) != n || !apart(b, bridge, pairs) {
				t.Fatal(b, bridge, want, n, found, is, pairs, so)
			}
		}
	}
	if slices.Min(seen[:5]) < 20 {
		t.Error("how often bridges change:", seen)
	}
}

// apart reports whether pairs are apart, by the words of the chapter.
func apart(b scale.Book, bridge int, pairs []scale.Pair) bool {
	exclude := func(p, q scale.Proof) bool {
		for value := -scale.MaxDrift; value <= scale.MaxDrift; value++ {
			if agrees(b, p, value) && agrees(b, q, value) {
				return false
			}
		}
		return true
	}
	for i, pair := range pairs {
		p, q := b.Proofs[pair.A], b.Proofs[pair.B]
		if p.Bridge != bridge || q.Bridge != bridge || p.Minute >= q.Minute || !exclude(p, q) {
			return false
		}
		if i+1 < len(pairs) && q.Minute > b.Proofs[pairs[i+1].A].Minute {
			return false
		}
	}
	return true
}

// TestP43Proves are pairs of the examples, in some order, that are apart or not.
func TestP43Proves(t *testing.T) {
	both := examples(0)
	both.Proofs = append(both.Proofs, scale.Proof{Bridge: 1, Minute: 10}, scale.Proof{Bridge: 1, Minute: 20, Reads: 5})
	for i, x := range []struct {
		b      scale.Book
		bridge int
		pairs  []scale.Pair
		is     bool
		e      api.Errno
	}{
		{both, 0, nil, true, api.OK},
		{both, 0, []scale.Pair{}, true, api.OK},
		{both, 0, []scale.Pair{{A: 0, B: 2}}, true, api.OK},
		{both, 0, []scale.Pair{{A: 1, B: 2}}, true, api.OK},
		{both, 0, []scale.Pair{{A: 2, B: 0}}, false, api.OK},
		{both, 0, []scale.Pair{{A: 0, B: 1}}, false, api.OK},
		{both, 0, []scale.Pair{{A: 2, B: 2}}, false, api.OK},
		{both, 0, []scale.Pair{{A: 0, B: 2}, {A: 0, B: 2}}, false, api.OK},
		{both, 0, []scale.Pair{{A: 3, B: 4}}, false, api.ErrNoSuch},
		{both, 1, []scale.Pair{{A: 3, B: 4}}, true, api.OK},
		{both, 1, []scale.Pair{{A: 2, B: 4}}, false, api.ErrNoSuch},
		{both, 1, []scale.Pair{{A: 3, B: 5}}, false, api.ErrNoSuch},
		{both, 0, []scale.Pair{{A: 0, B: 2}, {A: -1, B: 2}}, false, api.ErrNoSuch},
		{both, 0, []scale.Pair{{A: math.MinInt, B: math.MaxInt}}, false, api.ErrNoSuch},
		{both, 2, nil, false, api.ErrNoSuch},
		{both, -1, nil, false, api.ErrNoSuch},
		{proved(1, 3, 6, 3), 0, []scale.Pair{{A: 0, B: 1}, {A: 1, B: 2}}, true, api.OK},
		{proved(1, 3, 6, 3), 0, []scale.Pair{{A: 1, B: 2}, {A: 0, B: 1}}, false, api.OK},
		{proved(1, 3, 6, 9, 3), 0, []scale.Pair{{A: 0, B: 2}, {A: 1, B: 3}}, false, api.OK},
		{proved(1, 3, 6, 9, 3), 0, []scale.Pair{{A: 0, B: 1}, {A: 2, B: 3}}, true, api.OK},
		// A span that is empty has no number in common with any.
		{proved(1, 3, 52, 3), 0, []scale.Pair{{A: 0, B: 1}, {A: 1, B: 2}}, true, api.OK},
		{proved(1, 52, 52), 0, []scale.Pair{{A: 0, B: 1}}, true, api.OK},
		{proved(1, 52), 0, []scale.Pair{{}}, false, api.OK},
		{both, 0, make([]scale.Pair, 10), false, api.OK},
		{both, 0, make([]scale.Pair, 11), false, api.ErrCount},
		{both, 0, append(make([]scale.Pair, 11), scale.Pair{A: 5}), false, api.ErrNoSuch},
	} {
		if is, e := scale.Proves(x.b, x.bridge, x.pairs); is != x.is || e != x.e {
			t.Error(i, is, e)
		}
	}
}

// TestP43ProvesDefinition: pairs are apart if they are so by the words of the chapter.
func TestP43ProvesDefinition(t *testing.T) {
	l := &luck{6}
	var seen [2]int
	for range 3000 {
		b := l.book(dense(), 2)
		list := indices(b, 0)
		if len(list) < 3 {
			continue
		}
		for range 10 {
			slices.SortFunc(list, func(i, k int) int { return b.Proofs[i].Minute - b.Proofs[k].Minute })
			i := l.below(len(list) - 1)
			k := l.from(i, len(list)-1)
			pairs := []scale.Pair{{A: list[l.below(i+1)], B: list[l.from(i, k)]}, {A: list[k], B: list[l.from(k, len(list)-1)]}}
			if l.below(3) == 0 {
				pairs[1].A = list[l.below(len(list))]
			}
			is, e := scale.Proves(b, 0, pairs)
			if want := apart(b, 0, pairs); is != want || e != api.OK {
				t.Fatal(b, pairs, is, e)
			}
			seen[count(is)]++
		}
	}
	if seen[0] < 1000 || seen[1] < 1000 {
		t.Error("pairs that are not, and that are apart:", seen)
	}
}

// TestP43WhenDefinition goes through all ways to part the proofs with the fewest changes.
func TestP43WhenDefinition(t *testing.T) {
	l := &luck{7}
	var seen [scale.MaxProofs]int
	for i := range 2000 {
		b := l.book([]size{large(), dense()}[i%2], 2+i%7)
		for bridge := range scale.Bridges {
			n := fewest(b, bridge)
			if n < 1 {
				continue
			}
			seen[n]++
			want := make([]wide, n)
			parts(b, bridge, nil, n, func(all []part) {
				for change := range want {
					before := all[change].minutes
					want[change].take(before[len(before)-1] + 1)
					want[change].take(all[change+1].minutes[0])
				}
			})
			for change, w := range want {
				if s, e := scale.When(b, bridge, change); s != w.Span || e != api.OK {
					t.Fatal(b, bridge, change, s, e, w)
				}
			}
		}
	}
	if slices.Min(seen[1:5]) < 20 {
		t.Error("how often bridges change:", seen)
	}
}

// TestP43AllDrifts goes through all drifts of small books, minute by minute: none that fits has fewer changes, and those with as many change when they are told to.
func TestP43AllDrifts(t *testing.T) {
	l := &luck{8}
	var seen [3]int
	for range 400 {
		b := l.book(small(), 4)
		least := -1
		var when []wide
		most := few(b, 0)
		every(b, 0, small().minute, most, func(values []int, changes int) {
			if least < 0 || changes < least {
				least, when = changes, make([]wide, changes)
			}
			if changes > least {
				return
			}
			change := 0
			for minute := 1; minute < len(values); minute++ {
				if values[minute] != values[minute-1] {
					when[change].take(minute)
					change++
				}
			}
		})
		n, e := scale.Fewest(b, 0)
		if least < 0 {
			if e == api.OK && n <= most {
				t.Fatal(b, n)
			}
			continue
		}
		seen[least]++
		if n != least || e != api.OK {
			t.Fatal(b, n, e, least)
		}
		for change, w := range when {
			if s, e := scale.When(b, 0, change); s != w.Span || e != api.OK {
				t.Fatal(b, change, s, e, w)
			}
		}
	}
	if slices.Min(seen[:]) < 20 {
		t.Error("how often bridges change:", seen)
	}
}
