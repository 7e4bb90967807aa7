package plaint_test

import (
	"math"
	"reflect"
	"slices"
	"testing"

	"laystall/api"
	"laystall/plaint"
	"laystall/street"
)

// TestP97Real: whatever really was driven, a verdict that is not open is right, and the cart is told to be able to be where it was.
func TestP97Real(t *testing.T) {
	l := &luck{14}
	certain, sure, there := 0, 0, 0
	for i := range 600 {
		s := l.story(sizes(i))
		verdicts, e := plaint.Verdicts(s.Case)
		trust, f := plaint.Trust(s.Case)
		fewest, g := plaint.Fewest(s.Case)
		noError(t, e, f, g)
		for x, v := range verdicts {
			if v == plaint.Served && !s.serves(x) || v == plaint.Left && s.serves(x) {
				t.Fatal(s.Case, s.drive, x, v)
			}
			certain += count(v != plaint.Open)
		}
		for word, is := range s.truths(s.Words) {
			if trust[word] == plaint.Sure && !is || trust[word] == plaint.Untrue && is {
				t.Fatal(s.Case, s.drive, word, trust)
			}
			sure += count(trust[word] != plaint.Doubtful)
		}
		if len(fewest) > s.lies() {
			t.Fatal(s.Case, s.drive, fewest)
		}
		for range 4 {
			minute := l.from(0, s.Until)
			corners, e := plaint.Where(s.Case, minute)
			if at := s.at[minute]; e != api.OK || at != None && !slices.Contains(corners, at) {
				t.Fatal(s.Case, s.drive, minute, corners, e)
			}
			there += count(s.at[minute] != None)
		}
	}
	if certain < 600 || sure < 300 || there < 500 {
		t.Error("verdicts that are not open, words that are not doubtful, and corners:", certain, sure, there)
	}
}

// turns reports whether a verdict became another one, but from Open.
func turns(before, after plaint.Verdict) bool {
	return before != plaint.Open && after != before
}

// TestP97Words: a word more, with as many lies, turns no verdict but open ones, as long as some drive fits.
func TestP97Words(t *testing.T) {
	l := &luck{15}
	settled, clashes := 0, 0
	for i := range 900 {
		z := sizes(i)
		c := l.plaint(z)
		c.Words = c.Words[:min(len(c.Words), plaint.MaxWords-1)]
		before, e := plaint.Verdicts(c)
		if e != api.OK {
			continue
		}
		more, f := plaint.More(c, l.word(c, z))
		noError(t, f)
		after, e := plaint.Verdicts(more)
		if e == api.ErrClash {
			clashes++
			continue
		}
		noError(t, e)
		for x := range before {
			if turns(before[x], after[x]) {
				t.Fatal(more, before, after)
			}
			settled += count(before[x] != after[x])
		}
	}
	if settled < 100 || clashes < 50 {
		t.Error("verdicts that a word settled, and words by which no drive fits any more:", settled, clashes)
	}
}

// TestP97Lies: with more lies a verdict stays as it is, or becomes open; a drive that fits still does.
func TestP97Lies(t *testing.T) {
	l := &luck{16}
	opened, found := 0, 0
	for i := range 500 {
		c := l.plaint(sizes(i))
		c.Lies = 0
		var before, words []plaint.Verdict
		fits := false
		for lies := range plaint.MaxWords + 1 {
			c.Lies = lies
			after, e := plaint.Verdicts(c)
			trust, f := plaint.Trust(c)
			if e != f || e != api.OK && (e != api.ErrClash || fits) {
				t.Fatal(c, e, f)
			}
			if e != api.OK {
				continue
			}
			found += count(!fits && lies > 0)
			fits = true
			for x := range before {
				if turns(after[x], before[x]) {
					t.Fatal(c, before, after)
				}
				opened += count(before[x] != after[x])
			}
			for word := range words {
				if turns(trust[word], words[word]) {
					t.Fatal(c, words, trust)
				}
			}
			before, words = after, trust
		}
		if !fits {
			t.Fatal("with as many lies as words each drive fits:", c)
		}
	}
	if opened < 200 || found < 40 {
		t.Error("verdicts that lies opened, and cases that some drive fits by lies:", opened, found)
	}
}

// TestP97Exclude: all words together exclude each other just if some have to be untrue, and some drive fits just if not more of them have to be than may be.
func TestP97Exclude(t *testing.T) {
	l := &luck{17}
	excluding, without, clashes := 0, 0, 0
	for i := range 900 {
		c := l.plaint(sizes(i))
		var words []int
		for word := range c.Words {
			words = append(words, word)
		}
		is, e := plaint.Excludes(c, words)
		fewest, f := plaint.Fewest(c)
		clash, g := plaint.Clash(c)
		_, h := plaint.Find(c)
		noError(t, e, f)
		if is != (len(fewest) > 0) || is != (g == api.OK) || !is && g != api.ErrNone || (h == api.OK) != (len(fewest) <= c.Lies) {
			t.Fatal(c, is, fewest, clash, g, h)
		}
		if is {
			both, e := plaint.Excludes(c, clash)
			noError(t, e)
			if !both || !slices.ContainsFunc(fewest, func(word int) bool { return slices.Contains(clash, word) }) {
				t.Fatal(c, clash, fewest)
			}
			for _, word := range clash {
				others := slices.DeleteFunc(slices.Clone(clash), func(n int) bool { return n == word })
				if is, e := plaint.Excludes(c, others); is || e != api.OK {
					t.Fatal(c, clash, word)
				}
			}
		}
		excluding += count(is)
		without += count(!is)
		clashes += count(h == api.ErrClash)
	}
	if excluding < 200 || without < 200 || clashes < 50 {
		t.Error("words that exclude each other, that do not, and cases that no drive fits:", excluding, without, clashes)
	}
}

// TestP97Earliest: the cart is at a corner only at minutes from its earliest one in layer 1 on, and without words it can be there at all of them.
func TestP97Earliest(t *testing.T) {
	l := &luck{18}
	corners := 0
	for i := range 300 {
		c := l.plaint(sizes(i))
		first, e := street.Earliest(c.Town, c.Cart, c.From, 0)
		noError(t, e)
		minute := l.from(0, c.Until)
		there, e := plaint.Where(c, minute)
		if e != api.OK && e != api.ErrClash {
			t.Fatal(c, e)
		}
		for _, corner := range there {
			if first[corner] == street.None || first[corner] > minute {
				t.Fatal(c, minute, there, first)
			}
			corners++
		}
		var all []int
		for corner, m := range first {
			if m != street.None && m <= minute {
				all = append(all, corner)
			}
		}
		if got, e := plaint.Where(told(c, 0), minute); !slices.Equal(got, all) || e != api.OK {
			t.Fatal(c, minute, got, all, e)
		}
	}
	if corners < 300 {
		t.Error("corners:", corners)
	}
}

// TestP97Answers: an answer leaves no more streets open than there were, and fewer if the street was one of them.
func TestP97Answers(t *testing.T) {
	l := &luck{19}
	asked := 0
	for i := range 300 {
		c := l.story(sizes(i)).Case
		verdicts, e := plaint.Verdicts(c)
		noError(t, e)
		open := 0
		for _, v := range verdicts {
			open += count(v == plaint.Open)
		}
		for x, v := range verdicts {
			served, left, e := plaint.Asked(c, x)
			noError(t, e)
			want := [2]int{open, open}
			switch v {
			case plaint.Served:
				want[1] = 0
			case plaint.Left:
				want[0] = 0
			}
			if v != plaint.Open && [2]int{served, left} != want || v == plaint.Open && max(served, left) >= open {
				t.Fatal(c, verdicts, x, served, left)
			}
			asked++
		}
		if _, n, e := plaint.Ask(c); (e == api.OK) != (open > 0) || e == api.OK && n >= open {
			t.Fatal(c, verdicts, n, e)
		}
	}
	if asked < 800 {
		t.Error("streets that were asked:", asked)
	}
}

// odd makes a number one that is seldom allowed, now and then.
func (l *luck) odd(n *int) {
	switch l.below(150) {
	case 0:
		*n = []int{-1, 8, 9, 61, 241, 1 << 40, math.MaxInt, math.MinInt}[l.below(8)]
	case 1:
		*n += l.from(-2, 2)
	}
}

// strange returns a small number, or an odd one.
func (l *luck) strange(most int) int {
	n := l.from(0, most)
	for range 5 {
		l.odd(&n)
	}
	return n
}

// strangeCase returns a case that can be wrong in every place.
func (l *luck) strangeCase() plaint.Case {
	c := l.plaint(sizes(l.below(3)))
	if l.below(40) == 0 {
		c.Town.Streets = slices.Repeat(c.Town.Streets, l.from(1, 5))
	}
	if l.below(40) == 0 {
		c.Words = slices.Repeat(c.Words, l.from(1, 3))
	}
	for _, n := range []*int{&c.Town.Corners, &c.Cart.Wide, &c.Cart.Load, &c.From, &c.Until, &c.Lies} {
		l.odd(n)
	}
	for i := range c.Town.Streets {
		x := &c.Town.Streets[i]
		if l.below(20) == 0 {
			l.odd([]*int{&x.From, &x.To, &x.Minutes, &x.Up, &x.Wide, &x.Bears, &x.Shut.Lo, &x.Shut.Hi}[l.below(8)])
		}
	}
	for i := range c.Words {
		w := &c.Words[i]
		kind := int(w.Kind)
		for _, n := range []*int{&kind, &w.Place, &w.Lo, &w.Hi} {
			l.odd(n)
		}
		w.Kind = plaint.Kind(kind)
	}
	return c
}

// strangeQuestion returns a question that can be wrong in every place.
func (l *luck) strangeQuestion() question {
	q := question{c: l.strangeCase(), street: l.strange(7), minute: l.strange(40), served: l.below(2) == 0}
	q.word = plaint.Word{Kind: plaint.Kind(l.strange(2)), Place: l.strange(4), Lo: l.strange(20), Hi: l.strange(20) + 20}
	for i := range q.c.Words {
		if l.below(2) == 0 {
			q.words = append(q.words, i)
		}
	}
	for i := range q.words {
		l.odd(&q.words[i])
	}
	if plaint.Check(q.c) == api.OK {
		q.drive = slices.Clone(l.drive(q.c).drive)
	}
	if l.below(30) == 0 {
		q.drive = append(q.drive, make([]plaint.Step, l.below(100))...)
	}
	for i := range q.drive {
		l.odd(&q.drive[i].Street)
		l.odd(&q.drive[i].Start)
	}
	return q
}

// pair is a result of two numbers.
type pair struct{ a, b int }

// answers returns what all functions say to a question.
func answers(q question) []any {
	var list []any
	say := func(x any, e api.Errno) { list = append(list, x, e) }
	list = append(list, plaint.Check(q.c))
	say(plaint.Truths(q.c, q.drive))
	say(plaint.Fits(q.c, q.drive))
	say(plaint.Serves(q.c, q.drive))
	say(plaint.Find(q.c))
	say(plaint.Judge(q.c, q.street))
	say(plaint.Verdicts(q.c))
	say(plaint.Show(q.c, q.street, q.served))
	say(plaint.Trust(q.c))
	say(plaint.Fewest(q.c))
	say(plaint.Excludes(q.c, q.words))
	say(plaint.Clash(q.c))
	say(plaint.Where(q.c, q.minute))
	say(plaint.More(q.c, q.word))
	a, b, e := plaint.Asked(q.c, q.street)
	say(pair{a, b}, e)
	a, b, e = plaint.Ask(q.c)
	say(pair{a, b}, e)
	return list
}

// TestP01: no question makes a function panic, change its arguments, or answer otherwise when it is asked again; with an error, there is nothing else.
func TestP01(t *testing.T) {
	l := &luck{20}
	fine := 0
	for range 1500 {
		q := l.strangeQuestion()
		before := copied(q)
		first := answers(q)
		fine += count(first[0] == api.OK)
		if !reflect.DeepEqual(q, before) {
			t.Fatal("changed:", before, q)
		}
		if again := answers(q); !reflect.DeepEqual(again, first) {
			t.Fatal(q, first, again)
		}
		for i := 1; i < len(first); i += 2 {
			if first[i+1] != api.OK && !reflect.ValueOf(first[i]).IsZero() {
				t.Fatal(q, i, first[i], first[i+1])
			}
		}
	}
	if fine < 500 || fine > 1300 {
		t.Error("cases without an error:", fine)
	}
}

// TestR3NilAndEmpty: a list that is nil is the same as an empty one.
func TestR3NilAndEmpty(t *testing.T) {
	bare := ordinary()
	bare.c.Words, bare.drive, bare.words = nil, nil, nil
	none := bare
	none.c.Town.Streets = nil
	for i, q := range []question{bare, none, {}} {
		first := answers(q)
		q.c.Words, q.drive, q.words = []plaint.Word{}, []plaint.Step{}, []int{}
		if len(q.c.Town.Streets) == 0 {
			q.c.Town.Streets = []street.Street{}
		}
		for n, x := range answers(q) {
			if v := reflect.ValueOf(x); v.Kind() == reflect.Slice && v.Len() == 0 && reflect.ValueOf(first[n]).Len() == 0 {
				continue
			}
			if c, is := x.(plaint.Case); is && same(c, first[n].(plaint.Case)) {
				continue
			}
			if !reflect.DeepEqual(x, first[n]) {
				t.Error(i, n, x, first[n])
			}
		}
	}
}

// TestR4Memory: who changes a result changes nothing of what was asked, or of what is answered next.
func TestR4Memory(t *testing.T) {
	clashing := ordinary()
	clashing.c = clashing.with(clashing.extra)
	for _, q := range []question{ordinary(), clashing} {
		before := copied(q)
		said := answers(q)
		for _, x := range answers(q) {
			switch r := x.(type) {
			case []bool:
				clear(r[:cap(r)])
			case []int:
				clear(r[:cap(r)])
			case []plaint.Step:
				clear(r[:cap(r)])
			case []plaint.Verdict:
				clear(r[:cap(r)])
			case plaint.Case:
				clear(r.Words[:cap(r.Words)])
				clear(r.Town.Streets[:cap(r.Town.Streets)])
			}
		}
		if again := answers(q); !reflect.DeepEqual(again, said) || !reflect.DeepEqual(q, before) {
			t.Error(again, said)
		}
	}
}

// spare is a copy of a list behind which there is room, with the same elements.
func spare[T any](list []T) []T { return slices.Concat(list, list)[:len(list)] }

// twice reports whether a list has the elements of another one, and the room behind it has them, too.
func twice[T any](list, want []T) bool {
	return reflect.DeepEqual(list[:2*len(want)], slices.Repeat(want, 2))
}

// TestR4Room: no function writes behind the end of a list.
func TestR4Room(t *testing.T) {
	want, q := ordinary(), ordinary()
	q.c.Town.Streets, q.c.Words, q.drive, q.words = spare(q.c.Town.Streets), spare(q.c.Words), spare(q.drive), spare(q.words)
	answers(q)
	if !twice(q.c.Town.Streets, want.c.Town.Streets) || !twice(q.c.Words, want.c.Words) || !twice(q.drive, want.drive) || !twice(q.words, want.words) {
		t.Error(q)
	}
}

// TestGreatestCase asks all functions of cases in which almost everything can be: in an hour a cart passes sixty streets of a minute each.
func TestGreatestCase(t *testing.T) {
	star := quiet(town(8, plain(0, 1, 1), plain(0, 2, 1), plain(0, 3, 1), plain(0, 4, 1), plain(0, 5, 1), plain(0, 6, 1), plain(0, 7, 1), plain(0, 7, 1)), 60)
	star = told(star, 2, seen(1, 5, 50), passed(2, 9, 40), away(6, 3, 55), seen(4, 20, 30), passed(5, 1, 59))
	q := question{c: star, street: 7, minute: 60, served: true, words: list(0, 1, 2, 3, 4)}
	said := answers(q)
	open := slices.Repeat(verdicts(plaint.Open), 8)
	for i, x := range []struct{ said, want any }{
		{said[0], api.OK},
		{said[3], false},
		{said[9], plaint.Open},
		{said[11], open},
		{said[15], slices.Repeat(verdicts(plaint.Doubtful), 5)},
		{len(said[17].([]int)), 0},
		{said[19], false},
		{said[22], api.ErrNone},
		{said[23], list(0, 1, 2, 3, 4, 5, 6, 7)},
		{said[26], api.ErrCount},
		{said[27], pair{7, 7}},
		{said[29], pair{0, 7}},
	} {
		if !reflect.DeepEqual(x.said, x.want) {
			t.Error(i, x.said, x.want)
		}
	}
	showFits(t, star, 7, func(bool) bool { return true })
	// Without lies the streets are served that lead to corners where the cart was seen, and those that it passed.
	star.Lies = 0
	const o, s = plaint.Open, plaint.Served
	judged(t, star, verdicts(s, o, s, s, o, s, o, o))
}
