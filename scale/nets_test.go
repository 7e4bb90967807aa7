package scale_test

import (
	"slices"
	"testing"

	"laystall/api"
	"laystall/scale"
)

// plain goes through all that the errors of the bridges and the mud leave of the sum of the nets of trips, if the drifts are 0.
func plain(b scale.Book, trips []scale.Trip) api.Span {
	var sum api.Span
	for _, t := range trips {
		var net wide
		for in := -b.Errors[t.In.Bridge]; in <= b.Errors[t.In.Bridge]; in++ {
			for out := -b.Errors[t.Out.Bridge]; out <= b.Errors[t.Out.Bridge]; out++ {
				for mud := range t.Mud + 1 {
					net.take((t.In.Reads + in) - (t.Out.Reads + out) - mud)
				}
			}
		}
		sum = span(sum.Lo+net.Lo, sum.Hi+net.Hi)
	}
	return sum
}

// slips are the minutes at which trips ask a bridge.
func slips(trips []scale.Trip, bridge int) []int {
	var minutes []int
	for _, t := range trips {
		for _, s := range []scale.Slip{t.In, t.Out} {
			if s.Bridge == bridge {
				minutes = append(minutes, s.Minute)
			}
		}
	}
	return minutes
}

// shown is how much more the nets of trips are together because a bridge has some value at each minute.
func shown(trips []scale.Trip, bridge int, value func(minute int) int) int {
	sum := 0
	for _, t := range trips {
		if t.In.Bridge == bridge {
			sum -= value(t.In.Minute)
		}
		if t.Out.Bridge == bridge {
			sum += value(t.Out.Minute)
		}
	}
	return sum
}

// nets goes through all ways to part the minutes of both bridges, and returns the span of the sum of the nets of trips, and whether there is any.
func nets(b scale.Book, trips []scale.Trip, most int) wide {
	sum := wide{Span: plain(b, trips), any: true}
	for bridge := range scale.Bridges {
		var can wide
		parts(b, bridge, slips(trips, bridge), most, func(all []part) {
			var lo, hi int
			for _, p := range all {
				// The sum is a straight line of the value of each part, so that its ends are those of the spans.
				at := func(value int) int {
					return shown(trips, bridge, func(minute int) int { return value * count(slices.Contains(p.minutes, minute)) })
				}
				lo += min(at(p.can.Lo), at(p.can.Hi))
				hi += max(at(p.can.Lo), at(p.can.Hi))
			}
			can.take(lo)
			can.take(hi)
		})
		sum = wide{Span: span(sum.Lo+can.Lo, sum.Hi+can.Hi), any: sum.any && can.any}
	}
	if !sum.any {
		return wide{}
	}
	return sum
}

// doubtful is the book of the example, with a second trip of some weights; a third one goes out on bridge 1.
func doubtful(in, out int) scale.Book {
	b := examples(0)
	b.Trips = append(b.Trips,
		scale.Trip{In: scale.Slip{Minute: 55, Reads: in}, Out: scale.Slip{Minute: 95, Reads: out}},
		scale.Trip{In: scale.Slip{Minute: 20, Reads: in}, Out: scale.Slip{Bridge: 1, Minute: 95, Reads: out}},
	)
	return b
}

// TestP46Examples are those of the chapter, and trips of which the same drift is asked several times.
func TestP46Examples(t *testing.T) {
	twice := examples(0)
	twice.Trips = append(twice.Trips, twice.Trips[0])
	// A cart that comes in when another one goes out: what the bridge shows then counts for neither of both together.
	chain := scale.Book{Trips: []scale.Trip{
		{In: scale.Slip{Minute: 1, Reads: 9}, Out: scale.Slip{Minute: 2, Reads: 8}},
		{In: scale.Slip{Minute: 2, Reads: 8}, Out: scale.Slip{Minute: 3, Reads: 7}},
	}}
	for i, x := range []struct {
		b     scale.Book
		most  int
		nets  []api.Span
		total api.Span
		doubt []int
	}{
		{examples(0), 1, []api.Span{span(1786, 1804)}, span(1786, 1804), nil},
		{examples(0), 2, []api.Span{span(1785, 1811)}, span(1785, 1811), nil},
		{examples(1), 1, []api.Span{span(1731, 1850)}, span(1731, 1850), nil},
		{twice, 2, []api.Span{span(1785, 1811), span(1785, 1811)}, span(3570, 3622), nil},
		// With one change the drift is 5 at most until it changes, and then -1 to -5: before both slips of the second trip, or between them.
		{doubtful(7, 0), 1, []api.Span{span(1786, 1804), span(7-14, 7+4), span(7-59, 7+50)}, span(1814-14-14-59, 1814+4+4+50), nil},
		{doubtful(0, 4), 1, []api.Span{span(1786, 1804), span(-4-14, -4+4), span(-4-59, -4+50)}, span(1792-14-14-59, 1792+4+4+50), nil},
		{doubtful(0, 5), 1, []api.Span{span(1786, 1804), span(-5-14, -5+4), span(-5-59, -5+50)}, span(1790-14-14-59, 1790+4+4+50), []int{1}},
		{doubtful(0, 51), 1, []api.Span{span(1786, 1804), span(-51-14, -51+4), span(-51-59, -51+50)}, span(1698-14-14-59, 1698+4+4+50), []int{1, 2}},
		{chain, 0, []api.Span{span(1, 1), span(1, 1)}, span(2, 2), nil},
		{chain, 1, []api.Span{span(-99, 101), span(-99, 101)}, span(-98, 102), nil},
		{chain, 4, []api.Span{span(-99, 101), span(-99, 101)}, span(-98, 102), nil},
		{scale.Book{}, 0, nil, span(0, 0), nil},
	} {
		total, e := scale.Total(x.b, x.most)
		doubt, f := scale.Doubtful(x.b, x.most)
		if total != x.total || !slices.Equal(doubt, x.doubt) || e != api.OK || f != api.OK {
			t.Error(i, total, doubt, e, f)
		}
		for trip, want := range x.nets {
			if s, e := scale.Net(x.b, trip, x.most); s != want || e != api.OK {
				t.Error(i, trip, s, e)
			}
		}
	}
}

// TestP46Clash: a bridge without a drift leaves no net, also of a trip that does not use it, and also if there are no trips.
func TestP46Clash(t *testing.T) {
	torn := examples(0)
	torn.Proofs = append(torn.Proofs, scale.Proof{Bridge: 1, Known: 100, Reads: 200})
	none := torn
	none.Trips = nil
	for i, x := range []struct {
		b    scale.Book
		most int
		e    api.Errno
	}{{torn, 1, api.ErrClash}, {none, 1, api.ErrClash}, {examples(0), 0, api.ErrClash}, {examples(1), 0, api.ErrClash}, {examples(0), 1, api.OK}} {
		total, e := scale.Total(x.b, x.most)
		drifts, f := scale.Drifts(x.b, x.most, true)
		doubt, g := scale.Doubtful(x.b, x.most)
		if e != x.e || f != x.e || g != x.e || e != api.OK && (total != span(0, 0) || drifts != nil || doubt != nil) {
			t.Error(i, total, drifts, doubt, e, f, g)
		}
		if len(x.b.Trips) == 0 {
			continue
		}
		net, e := scale.Net(x.b, 0, x.most)
		in, left, f := scale.Again(x.b, 0, x.most)
		if e != x.e || f != x.e || e != api.OK && (net != span(0, 0) || in || left != 0) {
			t.Error(i, net, in, left, e, f)
		}
	}
}

// askDrifts asks for drifts with which the sum of all nets is greatest, and least, and whether they fit and reach these sums.
func askDrifts(t *testing.T, b scale.Book, most int, total api.Span) {
	t.Helper()
	for _, heavy := range []bool{false, true} {
		drifts, e := scale.Drifts(b, most, heavy)
		noError(t, e)
		if len(drifts) != scale.Bridges {
			t.Fatal(b, most, drifts)
		}
		rest := plain(b, b.Trips)
		sum, want := rest.Lo, total.Lo
		if heavy {
			sum, want = rest.Hi, total.Hi
		}
		for bridge, d := range drifts {
			is, e := scale.Fits(b, bridge, d)
			noError(t, e)
			if !is || len(d.Changes) > most {
				t.Fatal(b, most, bridge, d)
			}
			sum += shown(b.Trips, bridge, func(minute int) int { return valueOf(d, minute) })
		}
		if sum != want {
			t.Fatal(b, most, heavy, drifts, sum, want)
		}
	}
}

// TestP46Definition goes through all ways to part the minutes of both bridges.
func TestP46Definition(t *testing.T) {
	l := &luck{12}
	var seen [scale.MaxChanges + 1]int
	doubts := 0
	for i := range 600 {
		b := l.book([]size{large(), dense()}[i%2], 4+i%9)
		most := l.below(scale.MaxChanges + 1)
		want := nets(b, b.Trips, most)
		total, e := scale.Total(b, most)
		if total != want.Span || (e == api.OK) != want.any || !want.any && e != api.ErrClash {
			t.Fatal(b, most, total, e, want)
		}
		if !want.any {
			continue
		}
		seen[most]++
		askDrifts(t, b, most, total)
		var doubt []int
		for trip := range b.Trips {
			want := nets(b, b.Trips[trip:trip+1], most)
			if net, e := scale.Net(b, trip, most); net != want.Span || e != api.OK {
				t.Fatal(b, trip, most, net, e, want)
			}
			if want.Hi < 0 {
				doubt = append(doubt, trip)
			}
		}
		doubts += len(doubt)
		if list, e := scale.Doubtful(b, most); !slices.Equal(list, doubt) || e != api.OK {
			t.Fatal(b, most, list, e, doubt)
		}
	}
	if slices.Min(seen[:]) < 20 || doubts < 50 {
		t.Error("sums by changes:", seen, "trips in doubt:", doubts)
	}
}

// TestP46AllDrifts goes through all drifts of small books, minute by minute.
func TestP46AllDrifts(t *testing.T) {
	l := &luck{13}
	last := small().minute
	sums := 0
	for range 400 {
		b := l.book(small(), 6)
		most := min(few(b, 0), few(b, 1), l.below(3))
		want := wide{Span: plain(b, b.Trips), any: true}
		for bridge := range scale.Bridges {
			var can wide
			every(b, bridge, last, most, func(values []int, changes int) {
				can.take(shown(b.Trips, bridge, func(minute int) int { return values[minute] }))
			})
			want = wide{Span: span(want.Lo+can.Lo, want.Hi+can.Hi), any: want.any && can.any}
		}
		total, e := scale.Total(b, most)
		if !want.any {
			want.Span = span(0, 0)
		}
		if total != want.Span || (e == api.OK) != want.any {
			t.Fatal(b, most, total, e, want)
		}
		sums += count(want.any && len(b.Trips) > 0)
	}
	if sums < 100 {
		t.Error("sums:", sums)
	}
}
