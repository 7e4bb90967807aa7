package scale_test

import (
	"testing"

	"laystall/api"
	"laystall/scale"
)

// left returns the greatest width of the net of a trip, if the drift at one slip is known: all that is left then is what the bridge of the other slip can show, the errors, and the mud.
func left(b scale.Book, trip scale.Trip, slip, other scale.Slip, most int) int {
	rest := plain(b, []scale.Trip{trip})
	if slip.Bridge != other.Bridge {
		can := at(b, other.Bridge, other.Minute, most)
		return can.Hi - can.Lo + rest.Hi - rest.Lo
	}
	can := map[int]wide{}
	parts(b, slip.Bridge, []int{slip.Minute, other.Minute}, most, func(all []part) {
		known, then := partOf(all, slip.Minute), partOf(all, other.Minute)
		for value := known.can.Lo; value <= known.can.Hi; value++ {
			if then.minutes[0] == known.minutes[0] {
				then.can = span(value, value)
			}
			w := can[value]
			w.take(then.can.Lo)
			w.take(then.can.Hi)
			can[value] = w
		}
	})
	widest := 0
	for _, w := range can {
		widest = max(widest, w.Hi-w.Lo)
	}
	return widest + rest.Hi - rest.Lo
}

// TestP47Examples is that of the chapter, and trips whose slips leave as much, or of which one has been proved.
func TestP47Examples(t *testing.T) {
	// A proof at the minute of a slip tells as little as its error; one more tells all.
	at := examples(1)
	at.Trips[0].In.Minute = 10
	// With one change the drift at minute 70 is from 4 to 5, or from -5 to -1: no other value can be told.
	gap := examples(0)
	gap.Trips[0] = scale.Trip{In: scale.Slip{Minute: 70, Reads: 100}, Out: scale.Slip{Minute: 80, Reads: 50}}
	free := scale.Book{Trips: []scale.Trip{{In: scale.Slip{Reads: 1}, Out: scale.Slip{Bridge: 1, Minute: 1}}}}
	for i, x := range []struct {
		b    scale.Book
		most int
		in   bool
		left int
	}{
		{examples(1), 1, false, 19},
		{examples(0), 1, true, 18},
		{examples(0), 2, true, 25},
		{at, 1, false, 19},
		{at, 4, false, 22},
		{gap, 1, true, 18},
		// If it is known to be 4 or 5 then, it can be anything ten minutes later, before it changes again.
		{gap, 2, true, 108},
		{free, 0, true, 100},
		{free, 4, true, 100},
	} {
		if in, left, e := scale.Again(x.b, 0, x.most); in != x.in || left != x.left || e != api.OK {
			t.Error(i, in, left, e)
		}
	}
}

// TestP47Definition goes through all ways to part the minutes.
func TestP47Definition(t *testing.T) {
	l := &luck{14}
	var seen [2]int
	same := 0
	for i := range 400 {
		b := l.book([]size{large(), dense()}[i%2], 9+i%9)
		most := l.below(scale.MaxChanges + 1)
		for n, trip := range b.Trips {
			is, got, e := scale.Again(b, n, most)
			if e == api.ErrClash {
				break
			}
			in, out := left(b, trip, trip.In, trip.Out, most), left(b, trip, trip.Out, trip.In, most)
			if is != (in <= out) || got != min(in, out) || e != api.OK {
				t.Fatal(b, n, most, is, got, e, in, out)
			}
			seen[count(is)]++
			same += count(trip.In.Bridge == trip.Out.Bridge && in != out)
		}
	}
	if seen[0] < 50 || seen[1] < 50 || same < 20 {
		t.Error("better at Out, at In:", seen, "on the same bridge:", same)
	}
}

// TestP47AllDrifts goes through all drifts of small books, minute by minute, by what they are at a slip.
func TestP47AllDrifts(t *testing.T) {
	l := &luck{15}
	asked, torn := 0, 0
	for range 400 {
		b := l.book(small(), 6)
		most := min(few(b, 0), l.below(3))
		if len(indices(b, 0)) == 0 || len(b.Trips) == 0 {
			continue
		}
		trip := &b.Trips[0]
		trip.In.Bridge, trip.Out.Bridge = 0, 0
		rest := plain(b, b.Trips[:1])
		by := [2]map[int]wide{{}, {}}
		every(b, 0, small().minute, most, func(values []int, changes int) {
			in, out := values[trip.In.Minute], values[trip.Out.Minute]
			for i, x := range [2][2]int{{in, out}, {out, in}} {
				w := by[i][x[0]]
				w.take(x[1])
				by[i][x[0]] = w
			}
		})
		var want [2]int
		for i := range by {
			for _, w := range by[i] {
				want[i] = max(want[i], w.Hi-w.Lo+rest.Hi-rest.Lo)
			}
		}
		is, n, e := scale.Again(b, 0, most)
		if e == api.ErrClash {
			torn++
			continue
		}
		asked++
		if is != (want[0] <= want[1]) || n != min(want[0], want[1]) || e != api.OK {
			t.Fatal(b, most, is, n, e, want)
		}
	}
	if asked < 100 || torn < 20 {
		t.Error("trips:", asked, "that clash:", torn)
	}
}
