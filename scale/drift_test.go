package scale_test

import (
	"math"
	"testing"

	"laystall/api"
	"laystall/scale"
)

// TestP42Span: a proof leaves all drifts that are near what it reads too much; these can be cut off by the greatest drift, or be none.
func TestP42Span(t *testing.T) {
	for _, x := range []struct {
		off, excess int
		want        api.Span
		e           api.Errno
	}{
		{2, 3, span(1, 5), api.OK},
		{0, 3, span(3, 3), api.OK},
		{0, -50, span(-50, -50), api.OK},
		{0, 50, span(50, 50), api.OK},
		{50, 0, span(-50, 50), api.OK},
		{50, 10, span(-40, 50), api.OK},
		{50, -10, span(-50, 40), api.OK},
		{50, 100, span(50, 50), api.OK},
		{50, -100, span(-50, -50), api.OK},
		{50, 101, api.Span{}, api.ErrNone},
		{50, -101, api.Span{}, api.ErrNone},
		{1, 52, api.Span{}, api.ErrNone},
		{1, 51, span(50, 50), api.OK},
	} {
		if s, e := scale.Span(proved(x.off, 7, x.excess), 1); s != x.want || e != x.e {
			t.Error(x, s, e)
		}
	}
	for _, proof := range []int{-1, 3, math.MinInt, math.MaxInt} {
		if s, e := scale.Span(examples(0), proof); s != span(0, 0) || e != api.ErrNoSuch {
			t.Error(proof, s, e)
		}
	}
	// Each bridge has its own error.
	b := examples(0)
	b.Errors[1], b.Proofs[1].Bridge = 7, 1
	if s, e := scale.Span(b, 1); s != span(-1, 13) || e != api.OK {
		t.Error(s, e)
	}
}

// TestP42SpanDefinition goes through all values.
func TestP42SpanDefinition(t *testing.T) {
	l := &luck{2}
	for range 1000 {
		b := l.book(large(), 2)
		for i, p := range b.Proofs {
			want, e := spanOf(b, p.Bridge, p.Minute), api.OK
			if want.Lo > want.Hi {
				want, e = api.Span{}, api.ErrNone
			}
			if s, f := scale.Span(b, i); s != want || f != e {
				t.Fatal(b, i, s, f, want)
			}
		}
	}
}

// TestP42Value: a change counts from its minute on.
func TestP42Value(t *testing.T) {
	d := drift(3, 1, 50, 9, -2, 40, -50, 10000, 7)
	for minute, want := range map[int]int{0: 3, 1: 50, 8: 50, 9: -2, 39: -2, 40: -50, 9999: -50, 10000: 7} {
		if n, e := scale.Value(d, minute); n != want || e != api.OK {
			t.Error(minute, n, e)
		}
	}
	l := &luck{3}
	for range 1000 {
		d := l.drift(dense())
		for minute := range 20 {
			if n, e := scale.Value(d, minute); n != valueOf(d, minute) || e != api.OK {
				t.Fatal(d, minute, n, e)
			}
		}
	}
}

// changing is a drift with so many changes.
func changing(changes int) scale.Drift {
	d := drift(0)
	for i := range changes {
		d.Changes = append(d.Changes, scale.Change{Minute: i + 1, Value: 1 - i%2})
	}
	return d
}

// TestP42ErrorsOfADrift: the same ones for Value and for Fits.
func TestP42ErrorsOfADrift(t *testing.T) {
	late := changing(11)
	late.Changes[0], late.First = late.Changes[1], 51
	for i, x := range []struct {
		d scale.Drift
		e api.Errno
	}{
		{drift(0), api.OK},
		{changing(10), api.OK},
		{changing(11), api.ErrCount},
		{late, api.ErrCount},
		{drift(50, 1, -50), api.OK},
		{drift(51), api.ErrRange},
		{drift(-51), api.ErrRange},
		{drift(math.MinInt), api.ErrRange},
		{drift(0, 5, 51), api.ErrRange},
		{drift(0, 5, -51), api.ErrRange},
		{drift(0, 5, 1, 6, math.MaxInt), api.ErrRange},
		{drift(0, 0, 1), api.ErrRange},
		{drift(0, -1, 1), api.ErrRange},
		{drift(0, 10000, 1), api.OK},
		{drift(0, 10001, 1), api.ErrRange},
		{drift(0, 5, 0, 5, 0, 10001, 1), api.ErrRange},
		{drift(0, 5, 1, 5, 2), api.ErrOrder},
		{drift(0, 5, 1, 4, 2), api.ErrOrder},
		{drift(0, 3, 0, 5, 1, 5, 2), api.ErrOrder},
		{drift(0, 5, 1, 6, 2), api.OK},
		{drift(4, 5, 4), api.ErrWrong},
		{drift(4, 5, 3, 6, 3), api.ErrWrong},
		{drift(4, 5, 3, 6, 4), api.OK},
	} {
		n, e := scale.Value(x.d, 0)
		if e != x.e || e != api.OK && n != 0 {
			t.Error(i, n, e)
		}
		is, e := scale.Fits(scale.Book{}, 0, x.d)
		if e != x.e || is != (e == api.OK) {
			t.Error(i, is, e)
		}
	}
	for _, minute := range []int{-1, 10001, math.MinInt, math.MaxInt} {
		if n, e := scale.Value(drift(3), minute); n != 0 || e != api.ErrRange {
			t.Error(minute, n, e)
		}
		if n, e := scale.Value(drift(3, 5, 3), minute); n != 0 || e != api.ErrWrong {
			t.Error(minute, n, e)
		}
	}
}

// TestP42Fits: a drift fits if it agrees with each proof of its bridge, whatever it is at other minutes.
func TestP42Fits(t *testing.T) {
	for i, x := range []struct {
		bridge int
		d      scale.Drift
		is     bool
		e      api.Errno
	}{
		{0, drift(4, 51, -1), true, api.OK},
		{0, drift(5, 90, -5), true, api.OK},
		{0, drift(6, 90, -5), false, api.OK},
		{0, drift(5, 90, -6), false, api.OK},
		{0, drift(5, 91, -5), false, api.OK},
		{0, drift(5, 50, -5), false, api.OK},
		{0, drift(-50, 10, 1, 11, 50, 50, 8, 51, -50, 90, -1, 91, 50), true, api.OK},
		{1, drift(-50), true, api.OK},
		{2, drift(0), false, api.ErrNoSuch},
		{-1, drift(0), false, api.ErrNoSuch},
		{2, drift(51), false, api.ErrNoSuch},
	} {
		if is, e := scale.Fits(examples(0), x.bridge, x.d); is != x.is || e != x.e {
			t.Error(i, is, e)
		}
	}
	if is, e := scale.Fits(proved(1, 52), 0, drift(50)); is || e != api.OK {
		t.Error(is, e)
	}
	l := &luck{4}
	var seen [2]int
	for range 4000 {
		s := size{proofs: 3, minute: 10, off: 10, changes: 2}
		b, d := l.book(s, 8), l.drift(s)
		for bridge := range scale.Bridges {
			want := true
			for _, p := range b.Proofs {
				want = want && (p.Bridge != bridge || agrees(b, p, valueOf(d, p.Minute)))
			}
			if is, e := scale.Fits(b, bridge, d); is != want || e != api.OK {
				t.Fatal(b, bridge, d, is, e)
			}
			seen[count(want && len(indices(b, bridge)) > 0)]++
		}
	}
	if seen[1] < 100 {
		t.Error("drifts that fit some proofs:", seen[1])
	}
}
