package belt_test

import (
	"math"
	"reflect"
	"slices"
	"testing"

	"laystall/api"
	"laystall/belt"
)

// TestP57Told: what hands can take is shown by a sharing and by a set, of each tray, and what cannot be kept clean by a tray and by materials that hold it up.
func TestP57Told(t *testing.T) {
	l := &luck{15}
	held := 0
	for i := range 300 {
		b := l.belt([]size{large(), even(), small()}[i%3])
		mosts, all, e := belt.Most(b)
		noError(t, e)
		for tray := range b.Trays {
			sharing, e := belt.Share(b, tray)
			n, f := belt.Shared(b, tray, sharing)
			s, g := belt.Cut(b, tray)
			m, h := belt.Bounds(b, tray, s)
			noError(t, e, f, g, h)
			if n != mosts[tray] || m != mosts[tray] {
				t.Fatal(b, tray, n, mosts, m)
			}
			all -= n
		}
		if all != 0 {
			t.Fatal(b, mosts, all)
		}
		left := l.mild(b)
		is, e := belt.Clean(b, left)
		tray, s, f := belt.Held(b, left)
		noError(t, e)
		if is != (f == api.ErrNone) {
			t.Fatal(b, left, is, f)
		}
		if is {
			continue
		}
		held++
		if n, e := belt.HeldUp(b, left, tray, s); n < 1 || e != api.OK {
			t.Fatal(b, left, tray, s, n, e)
		}
	}
	if held < 50 {
		t.Error("belts that are held up:", held)
	}
}

// TestP57Clean: a tray can be kept clean just if no set holds it up; a belt just if all its trays can be.
func TestP57Clean(t *testing.T) {
	l := &luck{16}
	for range 200 {
		b := l.belt(even())
		left := l.mild(b)
		all := true
		for tray := range b.Trays {
			none := true
			for _, s := range sets() {
				_, e := belt.HeldUp(b, left, tray, s)
				none = none && e == api.ErrWrong
			}
			// Only this tray has something on it.
			alone := copyOf(b)
			for i := range alone.Trays {
				if i != tray {
					alone.Trays[i] = belt.Tray{}
				}
			}
			is, e := belt.Clean(alone, left)
			noError(t, e)
			if is != none {
				t.Fatal(b, left, tray, is, none)
			}
			all = all && is
		}
		if is, e := belt.Clean(b, left); is != all || e != api.OK {
			t.Fatal(b, left, is, all, e)
		}
	}
}

// TestP57Rule: in whatever order hands stand, they take by the rule no more than the most of each tray.
func TestP57Rule(t *testing.T) {
	l := &luck{17}
	less := 0
	for range 300 {
		b := l.belt(even())
		mosts, _, e := belt.Most(b)
		noError(t, e)
		for range 5 {
			order := list(0, 1, 2, 3, 4)[:len(b.Hands)]
			for i := range order {
				k := l.from(0, i)
				order[i], order[k] = order[k], order[i]
			}
			turned := staffed(b, order...)
			left, e := belt.Run(turned)
			same, _, f := belt.Most(turned)
			noError(t, e, f)
			for tray, most := range mosts {
				took := pieces(b.Trays[tray]) - pieces(left[tray])
				if took > most || same[tray] != most {
					t.Fatal(turned, tray, took, mosts, same)
				}
				less += count(took < most)
			}
		}
		line, left, e := belt.Line(b)
		rest, f := belt.Run(staffed(b, line...))
		noError(t, e, f)
		if left != pieces(rest...) {
			t.Fatal(b, line, left, rest)
		}
	}
	if less < 100 {
		t.Error("trays of which less is taken by the rule:", less)
	}
}

// never fails a test if hands take less of a tray of a belt than of one before it, and returns whether they take more.
func never(t *testing.T, before, after belt.Belt) bool {
	t.Helper()
	mosts, all, e := belt.Most(before)
	more, sum, f := belt.Most(after)
	noError(t, e, f)
	for tray, most := range mosts {
		if more[tray] < most {
			t.Fatal(before, after, tray, mosts, more)
		}
	}
	return sum > all
}

// TestP57MorePieces: they never make the most less.
func TestP57MorePieces(t *testing.T) {
	l := &luck{18}
	gains := 0
	for range 500 {
		b := l.belt(even())
		more := copyOf(b)
		for range l.from(1, 3) {
			more.Trays[l.below(len(b.Trays))][l.below(belt.Kinds)] += l.from(1, 5)
		}
		gains += count(never(t, b, more))
	}
	if gains < 50 {
		t.Error("belts of which more can be taken:", gains)
	}
}

// TestP57BetterHands: a hand that is stronger, tires less or takes a further material never makes the most less, and keeps clean what was clean.
func TestP57BetterHands(t *testing.T) {
	l := &luck{19}
	var gains, cleaner [3]int
	for i := range 1500 {
		b := l.belt(even())
		if len(b.Hands) == 0 {
			continue
		}
		better := copyOf(b)
		h := &better.Hands[l.below(len(b.Hands))]
		switch i % 3 {
		case 0:
			h.Strength = min(h.Strength+l.from(1, 3), belt.MaxStrength)
		case 1:
			h.Tires = max(h.Tires-1, 0)
		case 2:
			h.Takes[l.below(belt.Kinds)] = true
		}
		gains[i%3] += count(never(t, b, better))
		left := l.mild(better)
		was, e := belt.Clean(b, left)
		is, f := belt.Clean(better, left)
		noError(t, e, f)
		if was && !is {
			t.Fatal(b, better, left)
		}
		cleaner[i%3] += count(is && !was)
	}
	if slices.Min(gains[:]) < 30 || slices.Min(cleaner[:]) < 10 {
		t.Error("belts of which more can be taken, and that can be kept cleaner:", gains, cleaner)
	}
}

// strange returns a number that is an ordinary one, one at a limit, or any.
func (l *luck) strange() int {
	edges := [...]int{math.MinInt, math.MinInt + 1, -1, 0, 1, 4, 5, 7, 8, 10, 11, 40, 41, 60, 61, 100, 101, math.MaxInt - 1, math.MaxInt}
	if l.below(8) > 0 {
		return l.below(3)
	}
	return edges[l.below(len(edges))]
}

// strangeBelt returns a belt that can be wrong in every place.
func (l *luck) strangeBelt() belt.Belt {
	b := l.belt(large())
	odd := func(n *int) {
		if l.below(15) == 0 {
			*n = l.strange()
		}
	}
	for i := range b.Trays {
		for m := range b.Trays[i] {
			odd(&b.Trays[i][m])
		}
	}
	for i := range b.Hands {
		h := &b.Hands[i]
		for _, n := range []*int{&h.Strength, &h.Tires, &h.Slips} {
			odd(n)
		}
		if l.below(20) == 0 {
			h.Rests = append(h.Rests, l.strange())
		}
	}
	switch l.below(20) {
	case 0:
		b.Trays = make([]belt.Tray, l.below(11))
	case 1:
		b.Hands = make([]belt.Hand, l.below(8))
	}
	return b
}

// strangeQuestion returns a question that can be wrong in every place.
func (l *luck) strangeQuestion() question {
	q := question{belt: l.strangeBelt(), hand: l.strange(), tray: l.strange()}
	for m := range q.left {
		q.left[m] = l.strange()
	}
	for m := range l.below(8) {
		n := m
		if l.below(9) == 0 {
			n = l.strange()
		}
		q.set = append(q.set, belt.Material(n))
	}
	for range len(q.belt.Hands) + l.below(4)/3 {
		var t belt.Tray
		t[l.below(belt.Kinds)] = l.strange()
		t[l.below(belt.Kinds)] = l.strange()
		q.sharing = append(q.sharing, t)
	}
	return q
}

// copied returns a question that shares no memory with another one.
func copied(q question) question {
	q.belt, q.set, q.sharing = copyOf(q.belt), slices.Clone(q.set), slices.Clone(q.sharing)
	return q
}

// answers returns what all functions say to a question.
func answers(q question) []any {
	var list []any
	say := func(x any, e api.Errno) { list = append(list, x, e) }
	list = append(list, belt.Check(q.belt))
	say(belt.Force(q.belt, q.hand, q.tray))
	say(belt.Run(q.belt))
	say(belt.Heaps(q.belt))
	say(belt.Wrong(q.belt))
	mosts, most, e := belt.Most(q.belt)
	list = append(list, mosts, most, e)
	say(belt.Share(q.belt, q.tray))
	say(belt.Shared(q.belt, q.tray, q.sharing))
	say(belt.Cut(q.belt, q.tray))
	say(belt.Bounds(q.belt, q.tray, q.set))
	say(belt.Clean(q.belt, q.left))
	tray, s, e := belt.Held(q.belt, q.left)
	list = append(list, tray, s, e)
	say(belt.HeldUp(q.belt, q.left, q.tray, q.set))
	say(belt.Fewest(q.belt, q.left))
	say(belt.Loss(q.belt, q.hand))
	tray, most, e = belt.Rest(q.belt, q.hand)
	list = append(list, tray, most, e)
	line, left, e := belt.Line(q.belt)
	return append(list, line, left, e)
}

// TestP01: no question makes a function panic, change its arguments, or answer otherwise when it is asked again.
func TestP01(t *testing.T) {
	l := &luck{20}
	fine := 0
	for range 600 {
		q := l.strangeQuestion()
		before := copied(q)
		first := answers(q)
		fine += count(first[0] == api.OK)
		if !reflect.DeepEqual(q, before) {
			t.Fatal("changed:", before, q)
		}
		if again := answers(q); !reflect.DeepEqual(again, first) {
			t.Fatal(q, first, again)
		}
	}
	if fine < 100 || fine > 500 {
		t.Error("belts without an error:", fine)
	}
}

// TestR3NilAndEmpty: a list that is nil is the same as an empty one.
func TestR3NilAndEmpty(t *testing.T) {
	for _, tray := range []int{0, -1} {
		q := question{belt: belt.Belt{Trays: []belt.Tray{{1}}}, tray: tray}
		first := answers(q)
		q.belt.Hands, q.set, q.sharing = []belt.Hand{}, []belt.Material{}, []belt.Tray{}
		sameAnswers(t, answers(q), first)
		q.belt.Hands = []belt.Hand{{Takes: everything(), Strength: 2}}
		first = answers(q)
		q.belt.Hands[0].Rests = []int{}
		sameAnswers(t, answers(q), first)
		q.belt.Trays = nil
		first = answers(q)
		q.belt.Trays = []belt.Tray{}
		sameAnswers(t, answers(q), first)
	}
}

// sameAnswers holds answers against each other, of which lists may be nil or empty.
func sameAnswers(t *testing.T, said, want []any) {
	t.Helper()
	for i, x := range said {
		if v := reflect.ValueOf(x); v.Kind() == reflect.Slice && v.Len() == 0 && reflect.ValueOf(want[i]).Len() == 0 {
			continue
		}
		if !reflect.DeepEqual(x, want[i]) {
			t.Error(i, x, want[i])
		}
	}
}

// TestR4Memory: who changes a result changes nothing of what was asked, nor of what is answered next.
func TestR4Memory(t *testing.T) {
	clean := ordinary()
	clean.left = belt.Tray{6, 6, 1}
	for _, q := range []question{ordinary(), clean} {
		before := copied(q)
		said := answers(q)
		for _, x := range answers(q) {
			switch r := x.(type) {
			case []int:
				clear(r[:cap(r)])
			case []belt.Tray:
				clear(r[:cap(r)])
			case []belt.Material:
				clear(r[:cap(r)])
			}
		}
		if again := answers(q); !reflect.DeepEqual(again, said) || !reflect.DeepEqual(q, before) {
			t.Error(again, said)
		}
	}
}

// spare is a copy of a list behind which there is room, with the same elements.
func spare[T any](list []T) []T { return slices.Concat(list, list)[:len(list)] }

// twice reports whether a list has the elements of another one, and the room behind it has them, too.
func twice[T any](list, want []T) bool {
	return reflect.DeepEqual(list[:2*len(want)], slices.Repeat(want, 2))
}

// TestR4Room: no function writes behind the end of a list.
func TestR4Room(t *testing.T) {
	for _, left := range []belt.Tray{{}, {6, 6, 1}} {
		q := ordinary()
		q.left = left
		q.belt.Hands[0].Rests, q.belt.Hands[1].Rests = spare(list(2)), spare(list(1))
		q.belt.Trays, q.belt.Hands = spare(q.belt.Trays), spare(q.belt.Hands)
		q.set, q.sharing = spare(q.set), spare(q.sharing)
		want := ordinary()
		want.belt.Hands[0].Rests, want.belt.Hands[1].Rests = list(2), list(1)
		for q.hand = range 2 {
			answers(q)
			if !twice(q.belt.Trays, want.belt.Trays) || !twice(q.belt.Hands, want.belt.Hands) || !twice(q.set, want.set) || !twice(q.sharing, want.sharing) {
				t.Error(q)
			}
			for i, h := range q.belt.Hands {
				if !twice(h.Rests, want.belt.Hands[i].Rests) {
					t.Error(i, h)
				}
			}
		}
	}
}

// TestGreatestBelts asks all functions of belts of the greatest size, with the greatest numbers.
func TestGreatestBelts(t *testing.T) {
	q := question{hand: 4, tray: 7, set: set(belt.Paper, belt.Rags, belt.Glass, belt.Tin, belt.Bone)}
	for range belt.MaxTrays {
		q.belt.Trays = append(q.belt.Trays, belt.Tray{60, 60, 60, 60, 60})
	}
	for range belt.MaxHands {
		q.belt.Hands = append(q.belt.Hands, belt.Hand{Takes: everything(), Strength: belt.MaxStrength, Slips: 100})
		q.sharing = append(q.sharing, belt.Tray{0, 10, 10, 10, 10})
	}
	wrong := list(320, 320, 320, 320, 320)
	mosts := slices.Repeat(list(200), 8)
	left := belt.Tray{20, 20, 20, 20, 20}
	for i, x := range []struct{ said, want any }{
		{answers(q)[7], wrong},
		{answers(q)[9], mosts},
		{answers(q)[10], 1600},
		{answers(q)[14], 200},
		{answers(q)[18], 200},
		{answers(q)[25], 100},
		{answers(q)[29], 320},
		{answers(q)[34], list(0, 1, 2, 3, 4)},
		{answers(q)[35], 800},
	} {
		if !reflect.DeepEqual(x.said, x.want) {
			t.Error(i, x.said, x.want)
		}
	}
	few, e := belt.Fewest(q.belt, left)
	is, f := belt.Clean(q.belt, left)
	if !slices.Equal(few, list(0, 1, 2, 3, 4)) || e != api.OK || !is || f != api.OK {
		t.Error(few, e, is, f)
	}
	for hand := range q.belt.Hands {
		q.belt.Hands[hand].Tires = belt.MaxTires
	}
	// Forces of 40, 30, 20, 10 and then none: the best rest is in the middle of the belt.
	if tray, n, e := belt.Rest(q.belt, 4); tray != 3 || n != 4*100+40+30+20+40+30+20+10 || e != api.OK {
		t.Error(tray, n, e)
	}
}
