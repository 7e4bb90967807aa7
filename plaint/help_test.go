package plaint_test

import (
	"math/bits"
	"slices"
	"testing"

	"laystall/api"
	"laystall/plaint"
	"laystall/street"
)

const None = -1

// list makes a list of numbers.
func list(numbers ...int) []int { return numbers }

// seen, passed and away make words.
func seen(x, lo, hi int) plaint.Word {
	return plaint.Word{Kind: plaint.Seen, Place: x, Lo: lo, Hi: hi}
}
func passed(x, lo, hi int) plaint.Word {
	return plaint.Word{Kind: plaint.Passed, Place: x, Lo: lo, Hi: hi}
}
func away(x, lo, hi int) plaint.Word {
	return plaint.Word{Kind: plaint.Away, Place: x, Lo: lo, Hi: hi}
}

// forth and back make steps, drive a list of them.
func forth(x, start int) plaint.Step                { return plaint.Step{Street: x, Start: start} }
func back(x, start int) plaint.Step                 { return plaint.Step{Street: x, Back: true, Start: start} }
func drive(steps ...plaint.Step) []plaint.Step      { return steps }
func verdicts(l ...plaint.Verdict) []plaint.Verdict { return l }

// never is the span of a street that is never shut.
func never() api.Span { return api.Span{Lo: 1} }

// plain is a street that is wide, strong and never shut, and can be driven in both directions.
func plain(from, to, minutes int) street.Street {
	return street.Street{From: from, To: to, Minutes: minutes, Wide: 9, Bears: 9, Back: true, Shut: never()}
}

// town has some corners and streets.
func town(corners int, streets ...street.Street) street.Town {
	return street.Town{Corners: corners, Streets: streets}
}

// quiet is a case without words, of a small cart that is at corner 0.
func quiet(t street.Town, until int) plaint.Case {
	return plaint.Case{Town: t, Cart: street.Cart{Wide: 3}, Until: until}
}

// told is a case in which some words are told.
func told(c plaint.Case, lies int, words ...plaint.Word) plaint.Case {
	c.Lies, c.Words = lies, words
	return c
}

// triangle is the town of the chapter's examples, examples the case of them, with further words.
func triangle() street.Town {
	return town(3, plain(0, 1, 10), plain(1, 2, 10), plain(0, 2, 15))
}
func examples(further ...plaint.Word) plaint.Case {
	return told(quiet(triangle(), 40), 0, append([]plaint.Word{seen(2, 20, 20)}, further...)...)
}

// copyOf returns a case that shares no memory with another one.
func copyOf(c plaint.Case) plaint.Case {
	c.Town.Streets, c.Words = slices.Clone(c.Town.Streets), slices.Clone(c.Words)
	return c
}

// luck is a row of numbers that is the same in each run.
type luck struct{ state uint64 }

// below returns a number from 0 to n - 1.
func (l *luck) below(n int) int {
	l.state = l.state*6364136223846793005 + 1442695040888963407
	return int((l.state >> 33) % uint64(n))
}

// from returns a number from lo to hi.
func (l *luck) from(lo, hi int) int { return lo + l.below(hi-lo+1) }

// span returns one with ends from 0 to most.
func (l *luck) span(most int) (lo, hi int) {
	lo, hi = l.from(0, most), l.from(0, most)
	return min(lo, hi), max(lo, hi)
}

// size tells how great the cases of a test are at most.
type size struct{ corners, streets, minutes, until, words int }

// small is the size of cases of which all drives can be gone through, large the greatest there is; in those of lively many streets can be passed.
func small() size  { return size{corners: 4, streets: 4, minutes: 4, until: 8, words: 3} }
func lively() size { return size{corners: 5, streets: 8, minutes: 5, until: 30, words: 5} }
func large() size  { return size{corners: 8, streets: 8, minutes: 30, until: 60, words: 5} }

// sizes are all sizes, one for each i.
func sizes(i int) size { return []size{small(), lively(), large()}[i%3] }

// town returns one in which some streets are narrow, weak, one-way, steep, or shut for some time.
func (l *luck) town(z size) street.Town {
	t := street.Town{Corners: l.from(2, z.corners)}
	for range max(l.from(0, z.streets), l.from(0, z.streets)) {
		s := plain(l.below(t.Corners), 0, l.from(1, z.minutes))
		s.To = (s.From + l.from(1, t.Corners-1)) % t.Corners
		s.Back = l.below(3) > 0
		switch l.below(9) {
		case 0:
			s.Wide = l.from(1, 9)
		case 1:
			s.Bears = l.from(0, 9)
		case 2:
			s.Up = l.from(1, 3)
		case 3, 4:
			s.Shut.Lo, s.Shut.Hi = l.from(0, z.until), l.from(0, z.until)
		}
		t.Streets = append(t.Streets, s)
	}
	return t
}

// word returns any word.
func (l *luck) word(c plaint.Case, z size) plaint.Word {
	w := plaint.Word{Kind: plaint.Kind(l.below(3))}
	if len(c.Town.Streets) == 0 {
		w.Kind = plaint.Seen
	}
	if w.Kind == plaint.Seen {
		w.Place = l.below(c.Town.Corners)
	} else {
		w.Place = l.below(len(c.Town.Streets))
	}
	w.Lo, w.Hi = l.span(min(z.until+1, plaint.MaxUntil))
	return w
}

// empty returns a case without words.
func (l *luck) empty(z size) plaint.Case {
	c := plaint.Case{Town: l.town(z), Cart: street.Cart{Wide: l.from(1, 5), Load: l.below(4)}}
	c.From, c.Until = l.below(c.Town.Corners), max(l.from(0, z.until), l.from(0, z.until))
	return c
}

// story is a case in which really a drive was driven of which at most Lies words are untrue.
type story struct {
	plaint.Case
	tale
}

// story lets a cart drive, and tells some words that are true of it, and some that need not be.
func (l *luck) story(z size) story {
	c := l.empty(z)
	s := story{Case: c, tale: l.drive(c)}
	for range l.from(0, z.words) {
		w := l.word(c, z)
		for try := 0; try < 6 && l.below(5) > 0 && !s.true(w); try++ {
			w = l.word(c, z)
		}
		s.Words = append(s.Words, w)
		if !s.true(w) {
			s.Lies++
		}
	}
	s.Lies = min(s.Lies+l.below(6)/5, plaint.MaxWords)
	s.tale.c = s.Case
	return s
}

// drive lets a cart drive where it can.
func (l *luck) drive(c plaint.Case) tale {
	t := begin(c)
	for {
		var can []tale
		for next := range c.Until - t.now + 1 {
			if l.below(3) == 0 || next == 0 {
				can = append(can, t.further(t.now+next)...)
			}
		}
		if len(can) == 0 || l.below(9) == 0 {
			return t.rest()
		}
		t = can[l.below(len(can))]
	}
}

// plaint returns a valid case: that of a story, or one with fewer lies, or any words.
func (l *luck) plaint(z size) plaint.Case {
	c := l.story(z).Case
	switch l.below(4) {
	case 0:
		c.Lies = l.from(0, c.Lies)
	case 1:
		for i := range c.Words {
			c.Words[i] = l.word(c, z)
		}
		c.Lies = l.below(3)
	}
	return c
}

// tale tells a drive minute by minute, by the words of the chapter: at which corner the cart is, and in which street; None where it is in none.
type tale struct {
	c         plaint.Case
	drive     []plaint.Step
	ends      []int
	at, in    [plaint.MaxUntil + 1]int
	here, now int
}

// begin is the tale of a cart that is at From, at the minute 0.
func begin(c plaint.Case) tale {
	t := tale{c: c, here: c.From}
	for minute := range t.at {
		t.at[minute], t.in[minute] = None, None
	}
	t.at[0] = c.From
	return t
}

// rest is the tale of a cart that stays where it is until Until.
func (t tale) rest() tale {
	for ; t.now < t.c.Until; t.now++ {
		t.at[t.now+1] = t.here
	}
	return t
}

// further returns the tales of all that the cart can do, if it waits until a minute and starts then.
func (t tale) further(start int) []tale {
	var tales []tale
	for x, s := range t.c.Town.Streets {
		for _, back := range []bool{false, true} {
			if next, can := t.step(plaint.Step{Street: x, Back: back, Start: start}, s); can {
				tales = append(tales, next)
			}
		}
	}
	return tales
}

// step is the tale of a drive with one step more, and reports whether it is a drive.
func (t tale) step(step plaint.Step, s street.Street) (tale, bool) {
	near, far, takes := s.From, s.To, s.Minutes+s.Up*t.c.Cart.Load
	if step.Back {
		near, far, takes = s.To, s.From, s.Minutes
	}
	if near != t.here || step.Start < t.now || step.Start > t.c.Until || step.Start+takes > t.c.Until || step.Back && !s.Back || t.c.Cart.Wide > s.Wide || t.c.Cart.Load > s.Bears {
		return t, false
	}
	for ; t.now < step.Start; t.now++ {
		t.at[t.now+1] = t.here
	}
	for range takes {
		if s.Shut.Lo <= t.now && t.now <= s.Shut.Hi {
			return t, false
		}
		t.in[t.now] = step.Street
		t.now++
	}
	t.at[t.now], t.here = far, far
	t.drive, t.ends = append(slices.Clone(t.drive), step), append(slices.Clone(t.ends), t.now)
	return t, true
}

// taleOf is the tale of a drive, and reports whether it is one.
func taleOf(c plaint.Case, drive []plaint.Step) (tale, bool) {
	t := begin(c)
	for _, step := range drive {
		var can bool
		if t, can = t.step(step, c.Town.Streets[step.Street]); !can {
			return t, false
		}
	}
	return t.rest(), true
}

// each goes through all drives of a case.
func each(c plaint.Case, visit func(t tale)) {
	var lead func(t tale)
	lead = func(t tale) {
		visit(t.rest())
		for start := t.now; start <= c.Until; start++ {
			for _, next := range t.further(start) {
				lead(next)
			}
		}
	}
	lead(begin(c))
}

// true reports whether a word is true of a drive.
func (t tale) true(w plaint.Word) bool {
	switch w.Kind {
	case plaint.Seen:
		return slices.Contains(t.at[w.Lo:w.Hi+1], w.Place)
	case plaint.Away:
		return !slices.Contains(t.in[w.Lo:w.Hi+1], w.Place)
	}
	for i, s := range t.drive {
		if s.Street == w.Place && s.Start >= w.Lo && t.ends[i] <= w.Hi {
			return true
		}
	}
	return false
}

// truths tells which of some words are true of a drive.
func (t tale) truths(words []plaint.Word) []bool {
	var truths []bool
	for _, w := range words {
		truths = append(truths, t.true(w))
	}
	return truths
}

// lies tells how many words are untrue of a drive.
func (t tale) lies() int {
	n := 0
	for _, is := range t.truths(t.c.Words) {
		n += count(!is)
	}
	return n
}

// serves reports whether a drive serves a street.
func (t tale) serves(x int) bool {
	return slices.ContainsFunc(t.drive, func(s plaint.Step) bool { return s.Street == x })
}

// outcome is what comes of a drive: a bit for each word that is true, and for each street that is served.
type outcome struct{ words, streets uint }

// has reports whether bit i is one of those of a set.
func has(set uint, i int) bool { return set>>i&1 == 1 }

// outcomes is what can come of the drives of a case with some words.
type outcomes struct {
	plaint.Case
	words []plaint.Word
	all   map[outcome]bool
}

// outcomesOf finds what can come of drives, from their ends to their beginnings.
func outcomesOf(c plaint.Case, further ...plaint.Word) outcomes {
	o := outcomes{Case: c, words: slices.Concat(c.Words, further), all: map[outcome]bool{}}
	rests := make([][]map[outcome]bool, c.Until+1)
	for minute := c.Until; minute >= 0; minute-- {
		rests[minute] = make([]map[outcome]bool, c.Town.Corners)
		for corner := range c.Town.Corners {
			rests[minute][corner] = o.rest(corner, minute, rests)
		}
	}
	denied := uint(0)
	for i, w := range o.words {
		denied |= uint(count(w.Kind == plaint.Away)) << i
	}
	for came := range rests[0][c.From] {
		o.all[outcome{words: came.words ^ denied, streets: came.streets}] = true
	}
	return o
}

// rest returns what can happen from a corner and a minute on: the words of which that happens which they tell, or deny, and the streets that are served.
func (o outcomes) rest(corner, minute int, rests [][]map[outcome]bool) map[outcome]bool {
	found, here := map[outcome]bool{}, outcome{}
	for i, w := range o.words {
		here.words |= uint(count(w.Kind == plaint.Seen && w.Place == corner && w.Lo <= minute && minute <= w.Hi)) << i
	}
	add := func(later map[outcome]bool, now outcome) {
		for l := range later {
			found[outcome{words: l.words | now.words | here.words, streets: l.streets | now.streets}] = true
		}
	}
	if minute == o.Until {
		add(map[outcome]bool{{}: true}, outcome{})
		return found
	}
	add(rests[minute+1][corner], outcome{})
	there := begin(o.Case)
	there.here, there.now = corner, minute
	for _, next := range there.further(minute) {
		x := next.drive[0].Street
		now := outcome{streets: 1 << x}
		for i, w := range o.words {
			met := w.Kind == plaint.Passed && w.Lo <= minute && next.now <= w.Hi
			for m := minute; m < next.now; m++ {
				met = met || w.Kind == plaint.Away && w.Lo <= m && m <= w.Hi
			}
			now.words |= uint(count(met && w.Place == x)) << i
		}
		add(rests[next.now][next.here], now)
	}
	return found
}

// lies tells how many words of the case are untrue.
func (o outcomes) lies(x outcome) int {
	return len(o.Words) - bits.OnesCount(x.words&(1<<len(o.Words)-1))
}

// fitting returns what can come of drives that fit.
func (o outcomes) fitting() outcomes {
	fit := map[outcome]bool{}
	for x := range o.all {
		if o.lies(x) <= o.Lies {
			fit[x] = true
		}
	}
	o.all = fit
	return o
}

// none reports whether nothing can come of drives.
func (o outcomes) none() bool { return len(o.all) == 0 }

// verdict is one by what is so in each outcome.
func (o outcomes) verdict(is func(x outcome) bool) plaint.Verdict {
	yes, no := 0, 0
	for x := range o.all {
		yes += count(is(x))
		no += count(!is(x))
	}
	switch {
	case no == 0:
		return plaint.Sure
	case yes == 0:
		return plaint.Untrue
	}
	return plaint.Doubtful
}

// judged returns the verdicts about all streets.
func (o outcomes) judged() []plaint.Verdict {
	var l []plaint.Verdict
	for x := range o.Town.Streets {
		l = append(l, o.verdict(func(y outcome) bool { return has(y.streets, x) }))
	}
	return l
}

// trusted returns the verdicts about all words, also those that the case does not have.
func (o outcomes) trusted() []plaint.Verdict {
	var l []plaint.Verdict
	for i := range o.words {
		l = append(l, o.verdict(func(y outcome) bool { return has(y.words, i) }))
	}
	return l
}

// without returns what is left once it is known whether a street was served.
func (o outcomes) without(x int, served bool) outcomes {
	left := map[outcome]bool{}
	for y := range o.all {
		if has(y.streets, x) == served {
			left[y] = true
		}
	}
	o.all = left
	return o
}

// open returns how many streets are open.
func (o outcomes) open() int {
	n := 0
	for _, v := range o.judged() {
		n += count(v == plaint.Open)
	}
	return n
}

// excludes reports whether words exclude each other.
func (o outcomes) excludes(words []int) bool {
	for x := range o.all {
		if !slices.ContainsFunc(words, func(i int) bool { return !has(x.words, i) }) {
			return false
		}
	}
	return true
}

// lists returns all increasing lists of numbers below n, the shorter ones first, and lists of one length in lexicographic order.
func lists(n int) [][]int {
	var all [][]int
	for set := range uint(1) << n {
		l := list()
		for i := range n {
			if has(set, i) {
				l = append(l, i)
			}
		}
		all = append(all, l)
	}
	slices.SortFunc(all, func(a, b []int) int {
		if len(a) != len(b) {
			return len(a) - len(b)
		}
		return slices.Compare(a, b)
	})
	return all
}

// count is 1 if something is so, and 0 otherwise.
func count(is bool) int {
	if is {
		return 1
	}
	return 0
}

// noError fails a test if a call that has no reason for it returns an error.
func noError(t *testing.T, errors ...api.Errno) {
	t.Helper()
	for _, e := range errors {
		if e != api.OK {
			t.Fatal("error", errors)
		}
	}
}
