package lot_test

import (
	"math"
	"reflect"
	"slices"
	"testing"

	"laystall/api"
	"laystall/lot"
)

// within reports whether a span has no number that another one has not.
func within(s, other api.Span) bool { return other.Lo <= s.Lo && s.Lo <= s.Hi && s.Hi <= other.Hi }

// TestP67Paper: a lot that is sold has no more foul sacks than its paper says, in each truth; it has no better paper.
func TestP67Paper(t *testing.T) {
	l := &luck{14}
	papers := 0
	for range 300 {
		s := l.store(middle())
		plan, _, e := lot.Best(s)
		noError(t, e)
		for _, sacks := range append(plan, l.lot(s)) {
			sure, e := lot.Sure(s, sacks)
			noError(t, e)
			most := 0
			truths(s, sacks, func(foul, inside []int) { most = max(most, total(inside)) })
			for i, g := range s.Grades {
				if is := total(sacks) > 0 && 100*most <= g.Foul*total(sacks); is != (sure != lot.None && i >= sure) {
					t.Fatal(s, sacks, sure, i, most)
				}
			}
			papers += count(sure != lot.None)
		}
	}
	if papers < 200 {
		t.Error("lots that are sold:", papers)
	}
}

// TestP67NoPlanBringsMore: neither any that is made by chance, nor the best one more than prices that bound.
func TestP67NoPlanBringsMore(t *testing.T) {
	l := &luck{15}
	plans, bounds := 0, 0
	for i := range 300 {
		s := l.store([]size{large(), middle(), small()}[i%3])
		_, most, e := lot.Best(s)
		noError(t, e)
		for range 20 {
			var plan [][]int
			for range l.from(0, s.Lots) {
				plan = append(plan, l.lot(s))
			}
			n, e := lot.Earns(s, plan)
			if e == api.ErrWrong {
				continue
			}
			if n > most || e != api.OK {
				t.Fatal(s, plan, n, most, e)
			}
			plans += count(n > 0)
			prices := make([]int, len(s.Pickings))
			for i := range prices {
				prices[i] = l.from(0, lot.MaxPrice)
			}
			n, e = lot.Bound(s, prices)
			if e == api.ErrWrong {
				continue
			}
			if n < most || e != api.OK {
				t.Fatal(s, prices, n, most, e)
			}
			bounds += count(most > 0)
		}
	}
	if plans < 200 || bounds < 200 {
		t.Error("plans that bring something, and prices that bound:", plans, bounds)
	}
}

// TestP67OneSampleMore: it never makes a span wider, nor the most that a plan brings less.
func TestP67OneSampleMore(t *testing.T) {
	l := &luck{16}
	narrower, more := 0, 0
	for i := range 3000 {
		s := l.store([]size{large(), middle(), small()}[i%3])
		picking := l.below(len(s.Pickings))
		opened := l.from(0, s.Pickings[picking].Sacks-s.Pickings[picking].Opened)
		found := l.from(0, min(opened, 2))
		o, e := lot.Open(s, picking, opened, found)
		_, before, f := lot.Best(s)
		pays, g := lot.Pays(s, picking, opened)
		noError(t, f, g)
		if pays.Lo < before || pays.Hi < pays.Lo {
			t.Fatal(s, picking, opened, before, pays)
		}
		if e == api.ErrClash {
			continue
		}
		_, after, h := lot.Best(o)
		noError(t, e, h)
		if after < pays.Lo || after > pays.Hi {
			t.Fatal(s, picking, opened, found, after, pays)
		}
		more += count(after > before)
		sacks := l.lot(s)
		was, e := lot.Span(s, sacks)
		is, f := lot.Span(o, sacks)
		a, g := lot.Foul(s, picking)
		b, h := lot.Foul(o, picking)
		noError(t, e, f, g, h)
		if !within(is, was) || !within(b, a) {
			t.Fatal(s, o, sacks, was, is, a, b)
		}
		narrower += count(is != was)
	}
	if narrower < 50 || more < 50 {
		t.Error("samples that make lots surer, and that bring more:", narrower, more)
	}
}

// TestP67Kept: if a lot is not surely kept, in some truth more of its sacks are foul than the buyer takes; if it is, a buyer who opens all of what may be foul finds no more.
func TestP67Kept(t *testing.T) {
	l := &luck{17}
	back := 0
	for range 2000 {
		s := l.store(large())
		sacks := l.lot(s)
		opened := l.from(0, total(sacks))
		most := l.from(0, 4)
		is, e := lot.Kept(s, sacks, opened, most)
		foul, inside, f := lot.Bad(s, sacks)
		can, g := lot.Possible(s, sacks, foul, inside)
		noError(t, e, f, g)
		if !can || is != (min(opened, total(inside)) <= most) {
			t.Fatal(s, sacks, opened, most, is, foul, inside)
		}
		back += count(!is)
		// What can be sent back is what a buyer can find.
		if opened > most {
			_, e := lot.Left(s, sacks, opened, most+1)
			if more := opened - most - 1; is && e != api.ErrClash || !is && e != api.OK && total(inside)+more <= total(sacks) {
				t.Fatal(s, sacks, opened, most, is, e)
			}
		}
	}
	if back < 200 {
		t.Error("lots that can be sent back:", back)
	}
}

// TestP67Found: what a buyer finds never makes the span of a lot, or of a picking, wider.
func TestP67Found(t *testing.T) {
	l := &luck{18}
	clashes, narrower := 0, 0
	for range 3000 {
		s := l.store(large())
		sacks := l.lot(s)
		opened := l.from(0, total(sacks))
		found := l.from(0, min(opened, 3))
		was, e := lot.Span(s, sacks)
		noError(t, e)
		left, e := lot.Left(s, sacks, opened, found)
		told, f := lot.Tells(s, sacks, opened, found)
		if e == api.ErrClash {
			clashes++
			if f != api.ErrClash {
				t.Fatal(s, sacks, opened, found, f)
			}
			continue
		}
		noError(t, e, f)
		if !within(left, was) || left.Lo < found || left.Hi > total(sacks)-opened+found || len(told) != len(sacks) {
			t.Fatal(s, sacks, opened, found, left, was)
		}
		for i, p := range s.Pickings {
			if !within(told[i], foulOf(p)) {
				t.Fatal(s, sacks, opened, found, told)
			}
			narrower += count(told[i] != foulOf(p))
		}
	}
	if clashes < 200 || narrower < 200 {
		t.Error("samples that cannot be, and that tell something:", clashes, narrower)
	}
}

// strange returns a number that is an ordinary one, one at a limit, or any.
func (l *luck) strange() int {
	edges := [...]int{math.MinInt, math.MinInt + 1, -1, 0, 1, 3, 4, 5, 6, 7, 99, 100, 101, math.MaxInt - 1, math.MaxInt}
	if l.below(8) > 0 {
		return l.below(3)
	}
	return edges[l.below(len(edges))]
}

// odd makes one of some numbers in fifteen a strange one.
func (l *luck) odd(numbers ...*int) {
	for _, n := range numbers {
		if l.below(15) == 0 {
			*n = l.strange()
		}
	}
}

// strangeStore returns a store that can be wrong in every place.
func (l *luck) strangeStore() lot.Store {
	s := l.store(large())
	l.odd(&s.Lots)
	for i := range s.Pickings {
		p := &s.Pickings[i]
		l.odd(&p.Sacks, &p.Worst, &p.Opened, &p.Found)
	}
	for i := range s.Grades {
		g := &s.Grades[i]
		l.odd(&g.Foul, &g.Price)
	}
	switch l.below(20) {
	case 0:
		s.Pickings = make([]lot.Picking, l.below(7))
	case 1:
		s.Grades = make([]lot.Grade, l.below(7))
	}
	return s
}

// numbers returns about so many, most of which can be sacks.
func (l *luck) numbers(count int) []int {
	var list []int
	for range count + l.below(10)/9 {
		list = append(list, l.below(2))
	}
	for i := range list {
		l.odd(&list[i])
	}
	return list
}

// strangeQuestion returns a question that can be wrong in every place.
func (l *luck) strangeQuestion() question {
	s := l.strangeStore()
	n := len(s.Pickings)
	q := question{
		store: s, lot: l.numbers(n), foul: l.numbers(n), inside: l.numbers(n), prices: l.numbers(n),
		picking: l.strange(), opened: l.strange(), found: l.strange(), most: l.strange(), grade: l.strange(),
	}
	for range l.below(5) {
		q.plan = append(q.plan, l.numbers(n))
	}
	return q
}

// answers returns what all functions say to a question.
func answers(q question) []any {
	var list []any
	say := func(x any, e api.Errno) { list = append(list, x, e) }
	list = append(list, lot.Check(q.store))
	say(lot.Foul(q.store, q.picking))
	say(lot.Open(q.store, q.picking, q.opened, q.found))
	say(lot.Span(q.store, q.lot))
	foul, inside, e := lot.Bad(q.store, q.lot)
	list = append(list, foul, inside, e)
	say(lot.Possible(q.store, q.lot, q.foul, q.inside))
	say(lot.Sure(q.store, q.lot))
	say(lot.Brings(q.store, q.lot))
	say(lot.Most(q.store, q.grade))
	say(lot.Spare(q.store, q.lot, q.grade, q.picking))
	say(lot.Kept(q.store, q.lot, q.opened, q.most))
	say(lot.Left(q.store, q.lot, q.opened, q.found))
	say(lot.Tells(q.store, q.lot, q.opened, q.found))
	plan, brings, e := lot.Best(q.store)
	list = append(list, plan, brings, e)
	say(lot.Earns(q.store, q.plan))
	say(lot.Bound(q.store, q.prices))
	say(lot.Pays(q.store, q.picking, q.opened))
	return list
}

// TestP01: no question makes a function panic, change its arguments, or answer otherwise when it is asked again.
func TestP01(t *testing.T) {
	l := &luck{19}
	fine := 0
	for range 800 {
		q := l.strangeQuestion()
		before := copied(q)
		first := answers(q)
		fine += count(first[0] == api.OK)
		if !reflect.DeepEqual(q, before) {
			t.Fatal("changed:", before, q)
		}
		if again := answers(q); !reflect.DeepEqual(again, first) {
			t.Fatal(q, first, again)
		}
	}
	if fine < 150 || fine > 650 {
		t.Error("stores without an error:", fine)
	}
}

// TestR3NilAndEmpty: a list that is nil is the same as an empty one.
func TestR3NilAndEmpty(t *testing.T) {
	none := ordinary()
	none.store.Grades, none.plan = nil, nil
	nothing := question{}
	for _, q := range []question{none, nothing} {
		first := answers(q)
		for _, l := range []*[]int{&q.lot, &q.foul, &q.inside, &q.prices} {
			if *l == nil {
				*l = list()
			}
		}
		q.store.Grades, q.plan = []lot.Grade{}, [][]int{}
		if q.store.Pickings == nil {
			q.store.Pickings = []lot.Picking{}
		}
		sameAnswers(t, answers(q), first)
	}
	q := ordinary()
	q.plan, q.lot, q.foul, q.prices = [][]int{nil}, nil, nil, nil
	first := answers(q)
	q.plan, q.lot, q.foul, q.prices = [][]int{{}}, list(), list(), list()
	sameAnswers(t, answers(q), first)
}

// sameAnswers holds answers against each other, of which lists may be nil or empty.
func sameAnswers(t *testing.T, said, want []any) {
	t.Helper()
	for i, x := range said {
		if s, is := x.(lot.Store); is {
			other := want[i].(lot.Store)
			if !slices.Equal(s.Pickings, other.Pickings) || !slices.Equal(s.Grades, other.Grades) || s.Lots != other.Lots {
				t.Error(i, s, other)
			}
			continue
		}
		if v := reflect.ValueOf(x); v.Kind() == reflect.Slice && v.Len() == 0 && reflect.ValueOf(want[i]).Len() == 0 {
			continue
		}
		if !reflect.DeepEqual(x, want[i]) {
			t.Error(i, x, want[i])
		}
	}
}

// TestR4Memory: who changes a result changes nothing of what was asked, of other results, or of what is answered next.
func TestR4Memory(t *testing.T) {
	q := ordinary()
	before := copied(q)
	said := answers(q)
	for _, x := range answers(q) {
		switch r := x.(type) {
		case []int:
			clear(r[:cap(r)])
		case []api.Span:
			clear(r[:cap(r)])
		case [][]int:
			for _, sacks := range r {
				clear(sacks[:cap(sacks)])
			}
		case lot.Store:
			clear(r.Pickings[:cap(r.Pickings)])
			clear(r.Grades[:cap(r.Grades)])
		}
	}
	if again := answers(q); !reflect.DeepEqual(again, said) || !reflect.DeepEqual(q, before) {
		t.Error(again, said)
	}
	// The lots of a plan share no memory either.
	s := examples()
	s.Pickings[1].Opened = 6
	plan, _, e := lot.Best(s)
	noError(t, e)
	want := slices.Clone(plan[1])
	first := plan[0][:cap(plan[0])]
	clear(first)
	if len(plan) != 2 || !slices.Equal(plan[1], want) {
		t.Error(plan, want)
	}
}

// spare is a copy of a list behind which there is room, with the same elements.
func spare[T any](list []T) []T { return slices.Concat(list, list)[:len(list)] }

// twice reports whether a list has the elements of another one, and the room behind it has them, too.
func twice[T any](list, want []T) bool {
	return reflect.DeepEqual(list[:2*len(want)], slices.Repeat(want, 2))
}

// TestR4Room: no function writes behind the end of a list.
func TestR4Room(t *testing.T) {
	want := ordinary()
	q := ordinary()
	q.store.Pickings, q.store.Grades = spare(q.store.Pickings), spare(q.store.Grades)
	q.lot, q.foul, q.inside, q.prices = spare(q.lot), spare(q.foul), spare(q.inside), spare(q.prices)
	for i := range q.plan {
		q.plan[i] = spare(q.plan[i])
	}
	q.plan = spare(q.plan)
	answers(q)
	fine := twice(q.store.Pickings, want.store.Pickings) && twice(q.store.Grades, want.store.Grades) && twice(q.plan, want.plan)
	fine = fine && twice(q.lot, want.lot) && twice(q.foul, want.foul) && twice(q.inside, want.inside) && twice(q.prices, want.prices)
	for i, sacks := range q.plan {
		fine = fine && twice(sacks, want.plan[i])
	}
	if !fine {
		t.Error(q)
	}
}

// TestGreatestStore asks all functions of the greatest store, with the greatest numbers.
func TestGreatestStore(t *testing.T) {
	q := question{picking: 3, opened: 6, grade: 3, lot: list(6, 6, 6, 6), foul: list(6, 6, 6, 6), inside: list(6, 6, 6, 6), prices: list(100, 100, 100, 100)}
	q.store.Lots = lot.MaxLots
	for range lot.MaxPickings {
		q.store.Pickings = append(q.store.Pickings, lot.Picking{Sacks: lot.MaxSacks, Worst: lot.MaxSacks})
	}
	q.store.Grades = []lot.Grade{{97, 100}, {98, 99}, {99, 98}, {100, 97}}
	q.plan = [][]int{list(6, 0, 0, 0), list(0, 6, 0, 0), list(0, 0, 6, 6)}
	said := answers(q)
	for i, x := range []struct{ said, want any }{
		{said[1], span(0, 6)},
		{said[5], span(0, 24)},
		{said[10], true},
		{said[12], 3},
		{said[14], 24 * 97},
		{said[16], list(6, 6, 6, 6)},
		{said[18], 0},
		{said[22], span(0, 18)},
		{said[27], 24 * 97},
		{said[29], 24 * 97},
		{said[31], 2400},
		// 18 of 24 sacks are foul at most if the other 6 are clean: all 24 have the first grade then.
		{said[33], span(24*97, 2400)},
	} {
		if !reflect.DeepEqual(x.said, x.want) {
			t.Error(i, x.said, x.want)
		}
	}
}
