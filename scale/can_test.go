package scale_test

import (
	"testing"

	"laystall/api"
	"laystall/scale"
)

// at goes through all ways to part the minutes, of which one is asked for, and returns what the drift can be then, and whether there is any.
func at(b scale.Book, bridge, minute, most int) wide {
	var can wide
	parts(b, bridge, []int{minute}, most, func(all []part) {
		s := partOf(all, minute).can
		can.take(s.Lo)
		can.take(s.Hi)
	})
	return can
}

// partOf returns the part that has a minute.
func partOf(all []part, minute int) part {
	for _, p := range all {
		for _, m := range p.minutes {
			if m == minute {
				return p
			}
		}
	}
	return part{}
}

// TestP44Examples are those of the chapter, and minutes at the ends of the book.
func TestP44Examples(t *testing.T) {
	near := scale.Book{Proofs: []scale.Proof{{Minute: 5, Reads: 3}, {Minute: 6, Reads: 4}, {Minute: 8, Reads: 5}}}
	for i, x := range []struct {
		b                    scale.Book
		bridge, minute, most int
		want                 api.Span
		e                    api.Errno
	}{
		{examples(0), 0, 50, 1, span(4, 5), api.OK},
		{examples(0), 0, 51, 1, span(-5, 5), api.OK},
		{examples(0), 0, 70, 1, span(-5, 5), api.OK},
		{examples(0), 0, 89, 1, span(-5, 5), api.OK},
		{examples(0), 0, 90, 1, span(-5, -1), api.OK},
		{examples(0), 0, 10000, 1, span(-5, -1), api.OK},
		{examples(0), 0, 50, 2, span(4, 8), api.OK},
		{examples(0), 0, 70, 2, span(-50, 50), api.OK},
		{examples(0), 0, 10, 1, span(4, 5), api.OK},
		{examples(0), 0, 0, 1, span(4, 5), api.OK},
		{examples(0), 0, 0, 2, span(-50, 50), api.OK},
		{examples(0), 0, 9, 2, span(-50, 50), api.OK},
		{examples(0), 0, 10, 4, span(1, 5), api.OK},
		{examples(0), 0, 30, 2, span(1, 8), api.OK},
		{examples(0), 0, 30, 3, span(-50, 50), api.OK},
		{examples(0), 0, 50, 0, api.Span{}, api.ErrClash},
		{examples(0), 1, 50, 0, span(-50, 50), api.OK},
		{examples(0), 1, 0, 4, span(-50, 50), api.OK},
		{proved(1, 7), 0, 10000, 0, span(6, 8), api.OK},
		{proved(1, 7), 0, 11, 1, span(-50, 50), api.OK},
		{proved(1, 7), 0, 10, 4, span(6, 8), api.OK},
		{proved(1, 52), 0, 10, 4, api.Span{}, api.ErrClash},
		{proved(1, 52), 1, 10, 4, span(-50, 50), api.OK},
		// Between the minutes 5 and 6 there is none at which the drift can be something else; there is one between 6 and 8.
		{near, 0, 5, 4, span(3, 3), api.OK},
		{near, 0, 7, 2, span(4, 5), api.OK},
		{near, 0, 7, 3, span(-50, 50), api.OK},
		// A change is at the minute 1 at the earliest.
		{scale.Book{Proofs: []scale.Proof{{Reads: 2}}}, 0, 0, 4, span(2, 2), api.OK},
		{scale.Book{Proofs: []scale.Proof{{Reads: 2}}}, 0, 1, 1, span(-50, 50), api.OK},
		{scale.Book{Proofs: []scale.Proof{{Minute: 1, Reads: 2}}}, 0, 0, 1, span(-50, 50), api.OK},
	} {
		if s, e := scale.At(x.b, x.bridge, x.minute, x.most); s != x.want || e != x.e {
			t.Error(i, s, e)
		}
	}
}

// TestP44Definition goes through all ways to part the minutes, at those of proofs, beside them and at any other ones.
func TestP44Definition(t *testing.T) {
	l := &luck{9}
	var seen [scale.MaxChanges + 1]int
	for i := range 500 {
		b := l.book([]size{large(), dense()}[i%2], 3+i%9)
		for bridge := range scale.Bridges {
			minutes := []int{0, scale.MaxMinute, l.below(16), l.below(10001)}
			for _, p := range b.Proofs {
				minutes = append(minutes, p.Minute, max(p.Minute-1, 0), min(p.Minute+1, scale.MaxMinute))
			}
			most := l.below(scale.MaxChanges + 1)
			for _, minute := range minutes {
				want := at(b, bridge, minute, most)
				s, e := scale.At(b, bridge, minute, most)
				if s != want.Span || (e == api.OK) != want.any || !want.any && e != api.ErrClash {
					t.Fatal(b, bridge, minute, most, s, e, want)
				}
				seen[most] += count(want.any)
			}
		}
	}
	for most, n := range seen {
		if n < 100 {
			t.Error("drifts that fit with", most, "changes:", n)
		}
	}
}

// TestP44AllDrifts goes through all drifts of small books, minute by minute.
func TestP44AllDrifts(t *testing.T) {
	l := &luck{10}
	last := small().minute
	for range 400 {
		b := l.book(small(), 4)
		most := min(few(b, 0), l.below(3))
		can := make([]wide, last+1)
		every(b, 0, last, most, func(values []int, changes int) {
			for minute, value := range values {
				can[minute].take(value)
			}
		})
		for minute, want := range can {
			s, e := scale.At(b, 0, minute, most)
			if s != want.Span || (e == api.OK) != want.any || !want.any && e != api.ErrClash {
				t.Fatal(b, minute, most, s, e, want)
			}
		}
	}
}
