package tip_test

import (
	"math"
	"testing"

	"laystall/api"
	"laystall/tip"
)

// roomOf returns the greatest number of pounds that can be laid on a strip on a day, pound by pound; -1 if the line is not kept as it is.
func roomOf(t tip.Tip, strip, day int) int {
	w, line := ask(t), t.Strips[strip].Line
	if w.need(strip, day) > line {
		return -1
	}
	// What waste of one height adds depends on the height alone.
	var levels, left []int
	for on := day; on <= tip.MaxDay; on++ {
		levels = append(levels, w.level(strip, on).Hi)
		left = append(left, w.most[min(on-day, len(w.most)-1)])
	}
	most := 0
	for pounds := range tip.MaxPounds + 1 {
		fits := true
		for i, level := range levels {
			fits = fits && level+part(part(pounds, 1, t.Strips[strip].Area), left[i], 100) <= line
		}
		if fits {
			most = pounds
		}
	}
	return most
}

// TestP74Room holds rooms against all pounds that can be laid.
func TestP74Room(t *testing.T) {
	l := &luck{10}
	over, none, some, all := 0, 0, 0, 0
	for i := range 400 {
		z := []size{large(), middle(), small()}[i%3]
		q := l.tip(z)
		if i%2 == 0 {
			q = l.kept(z)
		}
		for strip := range q.Strips {
			day := l.from(0, 12)
			if i%5 == 0 {
				day = l.from(0, tip.MaxDay)
			}
			want, e := roomOf(q, strip, day), api.OK
			over += count(want < 0)
			none += count(want == 0)
			some += count(want > 0 && want < tip.MaxPounds)
			all += count(want == tip.MaxPounds)
			if want < 0 {
				want, e = 0, api.ErrNone
			}
			if n, f := tip.Room(q, strip, day); n != want || f != e {
				t.Fatal(q, strip, day, n, want, f, e)
			}
		}
	}
	if over < 20 || none < 20 || some < 100 || all < 20 {
		t.Error("strips that are over their lines, and that have no room, some, and all that there can be:", over, none, some, all)
	}
}

// TestP74Edges: the chapter's examples, lines that are kept again later, days, and the greatest and the least room.
func TestP74Edges(t *testing.T) {
	low := examples()
	low.Strips[0].Line = 20
	deep := examples()
	deep.Strips[0].Line = 999
	gone := examples()
	gone.Settles = []api.Span{point(0)}
	gone.Strips[0].Line = 12
	full := examples()
	full.Strips[0].Line = 21
	many := plain()
	for range tip.MaxLayers {
		many.Layers = append(many.Layers, tip.Layer{Day: 60, Pounds: 800})
	}
	for i, x := range []struct {
		t          tip.Tip
		strip, day int
		want       int
		e          api.Errno
	}{
		{examples(), 0, 2, 900, api.OK},
		{examples(), 0, 0, 1000, api.OK},
		{examples(), 1, 60, 1250, api.OK},
		// The line is not kept on day 1 and 2, but on day 3 there is room for an inch.
		{low, 0, 0, 0, api.ErrNone},
		{low, 0, 2, 0, api.ErrNone},
		{low, 0, 3, 100, api.OK},
		// Another strip is not asked.
		{low, 1, 0, 1050, api.OK},
		{deep, 0, 3, 2000, api.OK},
		// Waste of which nothing is left needs no room.
		{gone, 0, 0, 2000, api.OK},
		{full, 0, 2, 0, api.OK},
		{full, 0, 3, 200, api.OK},
		// There can be more than MaxLayers then.
		{many, 0, 60, 400, api.OK},
		{many, 0, 0, 400, api.OK},
		{examples(), 0, -1, 0, api.ErrRange},
		{examples(), 0, 61, 0, api.ErrRange},
		{low, 0, math.MaxInt, 0, api.ErrRange},
		{low, 2, 61, 0, api.ErrNoSuch},
		{low, -1, 0, 0, api.ErrNoSuch},
		{low, math.MinInt, 0, 0, api.ErrNoSuch},
	} {
		if n, e := tip.Room(x.t, x.strip, x.day); n != x.want || e != x.e {
			t.Error(i, n, e)
		}
	}
}
