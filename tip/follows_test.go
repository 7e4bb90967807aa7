package tip_test

import (
	"math"
	"reflect"
	"slices"
	"testing"

	"laystall/api"
	"laystall/tip"
)

// TestP78Lines: the surface stays within its lines until the day that is told, whatever the layers settle like, and on that day some settlings are over them.
func TestP78Lines(t *testing.T) {
	l := &luck{20}
	days := 0
	for i := range 300 {
		q := l.tip([]size{large(), middle(), small()}[i%3])
		strip, day, e := tip.Over(q)
		until := tip.MaxDay
		if e == api.OK {
			until = day - 1
			settlings, f := tip.Ends(q, strip, day, true)
			level, g := tip.With(q, settlings, strip, day)
			noError(t, f, g)
			if level <= q.Strips[strip].Line {
				t.Fatal(q, strip, day, level)
			}
		}
		for range 3 {
			settlings := l.settlings(q)
			for day := range until + 1 {
				for strip, s := range q.Strips {
					if n, e := tip.With(q, settlings, strip, day); n > s.Line || e != api.OK {
						t.Fatal(q, settlings, strip, day, n, e)
					}
				}
				days++
			}
		}
	}
	if days < 1000 {
		t.Error("days within lines:", days)
	}
}

// TestP78Ends: no settlings go beyond the ends of a level.
func TestP78Ends(t *testing.T) {
	l := &luck{21}
	between := 0
	for i := range 1000 {
		q := l.tip([]size{large(), middle(), small()}[i%3])
		strip, day := l.below(len(q.Strips)), l.from(0, tip.MaxDay)
		level, e := tip.Level(q, strip, day)
		noError(t, e)
		for range 5 {
			n, e := tip.With(q, l.settlings(q), strip, day)
			if !has(level, n) || e != api.OK {
				t.Fatal(q, strip, day, level, n, e)
			}
			between += count(level.Lo < n && n < level.Hi)
		}
	}
	if between < 500 {
		t.Error("levels between their ends:", between)
	}
}

// TestP78NeverGreater: a strip whose layers are all there has a level that never gets greater, at its ends and in all settlings.
func TestP78NeverGreater(t *testing.T) {
	l := &luck{22}
	less := 0
	for i := range 400 {
		q := l.tip([]size{large(), middle(), small()}[i%3])
		settlings := l.settlings(q)
		for strip := range q.Strips {
			last := 0
			for _, layer := range q.Layers {
				if layer.Strip == strip {
					last = layer.Day
				}
			}
			before, with := span(math.MaxInt, math.MaxInt), math.MaxInt
			for day := last; day <= tip.MaxDay; day++ {
				level, e := tip.Level(q, strip, day)
				n, f := tip.With(q, settlings, strip, day)
				noError(t, e, f)
				if level.Lo > before.Lo || level.Hi > before.Hi || n > with {
					t.Fatal(q, strip, day, level, before, n, with)
				}
				less += count(day > last && level != before)
				before, with = level, n
			}
		}
	}
	if less < 500 {
		t.Error("days on which levels get less:", less)
	}
}

// TestP78Room: waste that fills just the room keeps the line, and one pound more does not.
func TestP78Room(t *testing.T) {
	l := &luck{23}
	filled := 0
	for i := range 600 {
		q := l.kept([]size{large(), middle(), small()}[i%3])
		if len(q.Layers) == tip.MaxLayers {
			q.Layers = q.Layers[:tip.MaxLayers-1]
		}
		last := 0
		for _, layer := range q.Layers {
			last = max(last, layer.Day)
		}
		strip, day := l.below(len(q.Strips)), min(last+l.from(0, 3), tip.MaxDay)
		room, e := tip.Room(q, strip, day)
		noError(t, e)
		for pounds := room; pounds <= room+1; pounds++ {
			laid, e := tip.Lay(q, tip.Layer{Strip: strip, Day: day, Pounds: pounds})
			if pounds == 0 || pounds > tip.MaxPounds {
				continue
			}
			noError(t, e)
			_, at, e := tip.Over(laid)
			if (e == api.ErrNone) != (pounds == room) || e == api.OK && at < day {
				t.Fatal(q, strip, day, room, pounds, at, e)
			}
			filled++
		}
		// A load that fills just the room of its strip is laid there, or on one before it.
		if room > 0 {
			strips, e := tip.Fill(q, []tip.Load{{Day: day, Pounds: room}})
			if e != api.OK || len(strips) != 1 || strips[0] > strip {
				t.Fatal(q, strip, day, room, strips, e)
			}
		}
	}
	if filled < 300 {
		t.Error("rooms that were filled:", filled)
	}
}

// TestP78Loads: if all loads can be laid, any first ones can; the loads that are laid spoil nothing, and one more than can be laid does, on each strip.
func TestP78Loads(t *testing.T) {
	l := &luck{24}
	all, some := 0, 0
	for i := range 400 {
		z := []size{large(), middle(), small()}[i%3]
		q := l.kept(z)
		loads := l.loads(l.from(0, z.loads), z)
		most, e := tip.Most(q, loads)
		noError(t, e)
		for n := range len(loads) + 1 {
			strips, e := tip.Fill(q, loads[:n])
			if (e == api.OK) != (n <= most) {
				t.Fatal(q, loads, n, most, e)
			}
			if e == api.OK {
				if _, _, e := tip.Spoils(q, loads[:n], strips); e != api.ErrNone {
					t.Fatal(q, loads, strips, e)
				}
			}
			for strip := range q.Strips {
				if n == most && n < len(loads) {
					if load, _, e := tip.Spoils(q, loads[:n+1], append(slices.Clone(strips), strip)); load != n || e != api.OK {
						t.Fatal(q, loads, strips, strip, load, e)
					}
				}
			}
		}
		all += count(most == len(loads))
		some += count(most < len(loads))
	}
	if all < 50 || some < 50 {
		t.Error("tips with room for all loads, and for fewer:", all, some)
	}
}

// TestP78Covers: no fewer covers are enough than there are layers that are apart; with those that are told, laid as layers, nothing is late.
func TestP78Covers(t *testing.T) {
	l := &luck{25}
	fewer := 0
	for range 2000 {
		q := l.dense()
		covers, e := tip.Covers(q)
		noError(t, e)
		var chosen []int
		for _, i := range l.order(len(q.Layers)) {
			if more := append(slices.Clone(chosen), i); areApart(q, more) {
				chosen = more
			}
		}
		n, e := tip.ApartShows(q, chosen)
		if n != len(chosen) || n > len(covers) || e != api.OK {
			t.Fatal(q, covers, chosen, n, e)
		}
		fewer += count(n < len(covers))
		with := covered(q, covers)
		if len(with.Layers) <= tip.MaxLayers {
			if late, e := tip.Late(with); len(late) > 0 || e != api.OK {
				t.Fatal(with, late, e)
			}
		}
	}
	if fewer < 20 {
		t.Error("layers that are apart, but fewer than can be:", fewer)
	}
}

// order returns the numbers below n in any order.
func (l *luck) order(n int) []int {
	var numbers []int
	for i := range n {
		numbers = slices.Insert(numbers, l.below(i+1), i)
	}
	return numbers
}

// TestP78Wider: a span of Settles that is wider never makes a level less, at its greatest, nor greater, at its least.
func TestP78Wider(t *testing.T) {
	l := &luck{26}
	wider := 0
	for i := range 800 {
		q := l.tip([]size{large(), middle(), small()}[i%3])
		more := copyOf(q)
		s := &more.Settles[l.below(len(q.Settles))]
		s.Lo, s.Hi = max(s.Lo-l.from(0, 30), 0), min(s.Hi+l.from(0, 30), 100)
		for strip := range q.Strips {
			for _, day := range list(0, 1, 2, 3, 4, 5, 6, 7, 9, 12, 30, 60) {
				a, e := tip.Level(q, strip, day)
				b, f := tip.Level(more, strip, day)
				noError(t, e, f)
				if b.Lo > a.Lo || b.Hi < a.Hi {
					t.Fatal(q, more, strip, day, a, b)
				}
				wider += count(a != b)
			}
		}
	}
	if wider < 500 {
		t.Error("levels that can be further apart:", wider)
	}
}

// strange returns a number that is an ordinary one, one at a limit, or any.
func (l *luck) strange() int {
	edges := [...]int{math.MinInt, math.MinInt + 1, -1, 0, 1, 3, 4, 9, 10, 60, 61, 100, 101, 200, 999, 2000, math.MaxInt - 1, math.MaxInt}
	if l.below(8) > 0 {
		return l.below(3)
	}
	return edges[l.below(len(edges))]
}

// odd makes one of some numbers in fifty a strange one.
func (l *luck) odd(numbers ...*int) {
	for _, n := range numbers {
		if l.below(50) == 0 {
			*n = l.strange()
		}
	}
}

// strangeTip returns a tip that can be wrong in every place.
func (l *luck) strangeTip() tip.Tip {
	q := l.tip([]size{large(), middle(), small()}[l.below(3)])
	l.odd(&q.Soil, &q.Open)
	for i := range q.Strips {
		l.odd(&q.Strips[i].Area, &q.Strips[i].Base, &q.Strips[i].Line)
	}
	for i := range q.Settles {
		l.odd(&q.Settles[i].Lo, &q.Settles[i].Hi)
	}
	for i := range q.Gives {
		l.odd(&q.Gives[i].Lo, &q.Gives[i].Hi)
	}
	for i := range q.Layers {
		layer := &q.Layers[i]
		l.odd(&layer.Strip, &layer.Day, &layer.Pounds)
		if l.below(100) == 0 {
			layer.Cover = !layer.Cover
		}
	}
	switch l.below(20) {
	case 0:
		q.Strips = make([]tip.Strip, l.below(7))
	case 1:
		q.Layers = make([]tip.Layer, l.below(15))
	case 2:
		q.Settles = make([]api.Span, l.below(11))
	case 3:
		q.Gives = make([]api.Span, l.below(11))
	case 4:
		slices.Reverse(q.Settles)
	case 5:
		slices.Reverse(q.Layers)
	}
	return q
}

// numbers returns about so many, most of which are below a limit.
func (l *luck) numbers(count, limit int) []int {
	var list []int
	for range count + l.below(10)/9 {
		list = append(list, l.below(max(limit, 1)))
	}
	for i := range list {
		l.odd(&list[i])
	}
	return list
}

// strangeQuestion returns a question that can be wrong in every place.
func (l *luck) strangeQuestion() question {
	q := question{
		tip: l.strangeTip(), age: l.strange(), strip: l.strange(), day: l.strange(), gas: l.strange(), most: l.below(2) == 0,
		layer: tip.Layer{Strip: l.strange(), Day: l.strange(), Pounds: l.strange(), Cover: l.below(2) == 0},
		loads: l.loads(l.below(8), large()),
	}
	for i := range q.loads {
		l.odd(&q.loads[i].Day, &q.loads[i].Pounds)
	}
	q.strips = l.numbers(len(q.loads), len(q.tip.Strips))
	q.layers = l.numbers(l.below(4), len(q.tip.Layers))
	q.percents = l.numbers(len(q.tip.Settles), 101)
	if checkOf(q.tip) == api.OK {
		q.percents, q.settlings = l.settling(q.tip), l.settlings(q.tip)
	}
	if l.below(5) == 0 {
		q.settlings = append(q.settlings, q.percents)
	}
	if l.below(5) == 0 && len(q.settlings) > 0 {
		q.settlings[l.below(len(q.settlings))] = l.numbers(len(q.tip.Settles), 101)
	}
	return q
}

// answers returns what all functions say to a question.
func answers(q question) []any {
	var list []any
	say := func(x any, e api.Errno) { list = append(list, x, e) }
	list = append(list, tip.Check(q.tip))
	say(tip.Settling(q.tip, q.percents))
	say(tip.Left(q.tip, q.age))
	say(tip.With(q.tip, q.settlings, q.strip, q.day))
	say(tip.Level(q.tip, q.strip, q.day))
	say(tip.Ends(q.tip, q.strip, q.day, q.most))
	strip, day, e := tip.Over(q.tip)
	list = append(list, strip, day, e)
	say(tip.Need(q.tip))
	say(tip.Lay(q.tip, q.layer))
	say(tip.Room(q.tip, q.strip, q.day))
	say(tip.Fill(q.tip, q.loads))
	say(tip.Most(q.tip, q.loads))
	load, day, e := tip.Spoils(q.tip, q.loads, q.strips)
	list = append(list, load, day, e)
	say(tip.Late(q.tip))
	say(tip.Covers(q.tip))
	say(tip.Apart(q.tip))
	say(tip.ApartShows(q.tip, q.layers))
	say(tip.Gas(q.tip, q.day))
	say(tip.Quiet(q.tip, q.gas))
	return list
}

// TestP01: no question makes a function panic, change its arguments, or answer otherwise when it is asked again.
func TestP01(t *testing.T) {
	l := &luck{27}
	fine := 0
	for range 3000 {
		q := l.strangeQuestion()
		before := copied(q)
		first := answers(q)
		fine += count(first[0] == api.OK)
		if !reflect.DeepEqual(q, before) {
			t.Fatal("changed:", before, q)
		}
		if again := answers(q); !reflect.DeepEqual(again, first) {
			t.Fatal(q, first, again)
		}
	}
	if fine < 600 || fine > 2400 {
		t.Error("tips without an error:", fine)
	}
}

// TestR3NilAndEmpty: a list that is nil is the same as an empty one.
func TestR3NilAndEmpty(t *testing.T) {
	bare := ordinary()
	bare.tip.Layers, bare.loads, bare.strips, bare.layers, bare.settlings = nil, nil, nil, nil, nil
	for _, q := range []question{bare, {}} {
		first := answers(q)
		for _, l := range []*[]int{&q.percents, &q.strips, &q.layers} {
			if *l == nil {
				*l = list()
			}
		}
		q.tip.Layers, q.loads, q.settlings = []tip.Layer{}, []tip.Load{}, [][]int{}
		if q.tip.Strips == nil {
			q.tip.Strips, q.tip.Settles, q.tip.Gives = []tip.Strip{}, []api.Span{}, []api.Span{}
		}
		sameAnswers(t, answers(q), first)
	}
	q := ordinary()
	q.settlings[1], q.percents = nil, nil
	first := answers(q)
	q.settlings[1], q.percents = list(), list()
	sameAnswers(t, answers(q), first)
}

// sameAnswers holds answers against each other, of which lists may be nil or empty.
func sameAnswers(t *testing.T, said, want []any) {
	t.Helper()
	for i, x := range said {
		if s, is := x.(tip.Tip); is {
			other := want[i].(tip.Tip)
			if !slices.Equal(s.Strips, other.Strips) || !slices.Equal(s.Layers, other.Layers) || !slices.Equal(s.Settles, other.Settles) || !slices.Equal(s.Gives, other.Gives) || s.Soil != other.Soil || s.Open != other.Open {
				t.Error(i, s, other)
			}
			continue
		}
		if v := reflect.ValueOf(x); v.Kind() == reflect.Slice && v.Len() == 0 && reflect.ValueOf(want[i]).Len() == 0 {
			continue
		}
		if !reflect.DeepEqual(x, want[i]) {
			t.Error(i, x, want[i])
		}
	}
}

// TestR4Memory: who changes a result changes nothing of what was asked, of other results, or of what is answered next.
func TestR4Memory(t *testing.T) {
	q := ordinary()
	before := copied(q)
	said := answers(q)
	for _, x := range answers(q) {
		switch r := x.(type) {
		case []int:
			clear(r[:cap(r)])
		case []tip.Layer:
			clear(r[:cap(r)])
		case [][]int:
			for _, percents := range r {
				clear(percents[:cap(percents)])
			}
		case tip.Tip:
			clear(r.Strips[:cap(r.Strips)])
			clear(r.Settles[:cap(r.Settles)])
			clear(r.Gives[:cap(r.Gives)])
			clear(r.Layers[:cap(r.Layers)])
		}
	}
	if again := answers(q); !reflect.DeepEqual(again, said) || !reflect.DeepEqual(q, before) {
		t.Error(again, said)
	}
	// The settlings of two layers share no memory either.
	for _, most := range []bool{true, false} {
		settlings, e := tip.Ends(examples(), 0, 3, most)
		noError(t, e)
		want := slices.Clone(settlings[2])
		clear(settlings[0][:cap(settlings[0])])
		if len(settlings) != 3 || !slices.Equal(settlings[2], want) {
			t.Error(settlings, want)
		}
	}
}

// spare is a copy of a list behind which there is room, with the same elements.
func spare[T any](list []T) []T { return slices.Concat(list, list)[:len(list)] }

// twice reports whether a list has the elements of another one, and the room behind it has them, too.
func twice[T any](list, want []T) bool {
	return reflect.DeepEqual(list[:2*len(want)], slices.Repeat(want, 2))
}

// TestR4Room: no function writes behind the end of a list.
func TestR4Room(t *testing.T) {
	want := ordinary()
	q := ordinary()
	q.tip.Strips, q.tip.Settles, q.tip.Gives, q.tip.Layers = spare(q.tip.Strips), spare(q.tip.Settles), spare(q.tip.Gives), spare(q.tip.Layers)
	q.loads, q.percents, q.strips, q.layers = spare(q.loads), spare(q.percents), spare(q.strips), spare(q.layers)
	for i, percents := range q.settlings {
		if percents != nil {
			q.settlings[i] = spare(percents)
		}
	}
	q.settlings = spare(q.settlings)
	answers(q)
	fine := twice(q.tip.Strips, want.tip.Strips) && twice(q.tip.Settles, want.tip.Settles) && twice(q.tip.Gives, want.tip.Gives) && twice(q.tip.Layers, want.tip.Layers)
	fine = fine && twice(q.loads, want.loads) && twice(q.percents, want.percents) && twice(q.strips, want.strips) && twice(q.layers, want.layers) && twice(q.settlings, want.settlings)
	for i, percents := range q.settlings {
		fine = fine && (percents == nil || twice(percents, want.settlings[i]))
	}
	if !fine {
		t.Error(q)
	}
}

// TestGreatestTip asks all functions of the greatest tip, with the greatest numbers.
func TestGreatestTip(t *testing.T) {
	q := question{age: 60, strip: 3, day: 60, gas: 23999, most: true, layer: tip.Layer{Strip: 3, Day: 60, Pounds: 2000}}
	q.tip = tip.Tip{Strips: slices.Repeat([]tip.Strip{{Area: 1, Base: 999, Line: 999}}, 4), Settles: slices.Repeat([]api.Span{span(0, 100)}, 8), Gives: slices.Repeat([]api.Span{point(100)}, 8), Soil: 9, Open: 9}
	for range tip.MaxLayers {
		q.tip.Layers = append(q.tip.Layers, tip.Layer{Strip: 3, Day: 60, Pounds: 2000})
		q.settlings = append(q.settlings, slices.Repeat(list(100), 8))
	}
	q.percents, q.layers = slices.Repeat(list(0), 8), list(11)
	q.loads, q.strips = slices.Repeat([]tip.Load{{Day: 60, Pounds: 2000}}, 6), list(0, 1, 2, 3, 0, 1)
	said := answers(q)
	for i, x := range []struct{ said, want any }{
		{said[1], true},
		{said[3], span(0, 100)},
		{said[5], 999 + 24000},
		{said[7], span(999, 999+24000)},
		{said[9], q.settlings},
		{said[11], 3},
		{said[12], 60},
		{said[14], list(999, 999, 999, 999+24000)},
		{said[17], api.ErrCount},
		{said[19], api.ErrNone},
		{said[21], api.ErrNone},
		{said[23], api.ErrNone},
		{said[26], api.ErrState},
		{said[27], list(0, 1, 2, 3, 4, 5, 6, 7, 8, 9, 10, 11)},
		{said[29], []tip.Layer{{Strip: 3, Day: 60, Cover: true}}},
		{said[31], list(0)},
		{said[33], 1},
		{said[35], point(24000)},
		{said[38], api.ErrNone},
	} {
		if !reflect.DeepEqual(x.said, x.want) {
			t.Error(i, x.said, x.want)
		}
	}
}

// TestHardestLoads lays six loads on four strips, where all lists of strips for five of them keep the lines, and none for six.
func TestHardestLoads(t *testing.T) {
	q := tip.Tip{Strips: slices.Repeat([]tip.Strip{{Area: 1, Line: 999}}, 4), Settles: slices.Repeat([]api.Span{span(0, 100)}, 8), Gives: []api.Span{point(0)}}
	loads := append(slices.Repeat([]tip.Load{{Pounds: 100}}, 5), tip.Load{Day: 60, Pounds: 1000})
	strips, e := tip.Fill(q, loads)
	n, f := tip.Most(q, loads)
	if strips != nil || n != 5 || e != api.ErrNone || f != api.OK {
		t.Error(strips, n, e, f)
	}
}
