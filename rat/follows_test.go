package rat_test

import (
	"math"
	"reflect"
	"slices"
	"testing"

	"laystall/api"
	"laystall/rat"
)

// TestP88Least: the least number of rats is that of those that were caught, and with it there is a truth in which none is left.
func TestP88Least(t *testing.T) {
	l := &luck{20}
	for i := range 300 {
		c := l.open(sizes(i))
		caught := 0
		for _, night := range c.Nights {
			for _, n := range night {
				caught += n
			}
		}
		rats, e := rat.Rats(c)
		fewest, f := rat.Find(c, false)
		noError(t, e, f)
		if rats.Lo != caught || slices.Max(fewest.Left) != 0 {
			t.Fatal(c, rats, fewest)
		}
	}
}

// TestP88Clash: a colony clashes just if some houses are short; those that are told are.
func TestP88Clash(t *testing.T) {
	l := &luck{21}
	clashes, not := 0, 0
	for i := range 900 {
		c := l.colony(sizes(i))
		_, e := rat.Rats(c)
		houses, f := rat.Clash(c)
		switch {
		case e == api.ErrClash && f == api.OK:
			if n, e := rat.Short(c, houses); n < 1 || e != api.OK {
				t.Fatal(c, houses, n, e)
			}
			clashes++
		case e == api.OK && f == api.ErrNone:
			for _, houses := range lists(len(c.Rooms)) {
				if n, e := rat.Short(c, houses); n != 0 || e != api.ErrWrong {
					t.Fatal(c, houses, n, e)
				}
			}
			not++
		default:
			t.Fatal(c, e, f)
		}
	}
	if clashes < 100 || not < 100 {
		t.Error("colonies that clash, and that do not:", clashes, not)
	}
}

// TestP88Baits: no fewer baits are enough than there are houses apart, and those that are told reach each house in which a rat can be.
func TestP88Baits(t *testing.T) {
	l := &luck{22}
	for i := range 400 {
		c := l.open(sizes(i))
		after, e := rat.After(c)
		noError(t, e)
		for reach := range rat.MaxReach + 1 {
			baits, e := rat.Baits(c, reach)
			apart, f := rat.Apart(c, reach)
			noError(t, e, f)
			if len(baits) < len(apart) {
				t.Fatal(c, reach, baits, apart)
			}
			var reached []int
			for _, bait := range baits {
				l, e := rat.Reaches(c, bait, reach)
				noError(t, e)
				reached = append(reached, l...)
			}
			for house, n := range after {
				if n > 0 && !slices.Contains(reached, house) {
					t.Fatal(c, reach, baits, house)
				}
			}
		}
	}
}

// TestP88Need: whatever really happened, no more rats are left in a house than can be, nor go to one in the next night than as many traps as needed catch.
func TestP88Need(t *testing.T) {
	l := &luck{23}
	left, filled := 0, 0
	for i := range 900 {
		s := l.story(sizes(i))
		after, e := rat.After(s.Colony)
		need, f := rat.Need(s.Colony)
		rats, g := rat.Rats(s.Colony)
		noError(t, e, f, g)
		if n := len(s.caught) + len(s.left); !has(rats, n) {
			t.Fatal(s.Colony, rats, n)
		}
		for range 5 {
			there, traps := slices.Clone(after), slices.Clone(need)
			next := slices.Clone(s.left)
			l.walk(s.Colony, next)
			for i, w := range next {
				was, to := s.left[i].way, w.way[len(w.way)-1]
				there[was[len(was)-1]]--
				traps[to]--
			}
			if slices.Min(there) < 0 || slices.Min(traps) < 0 {
				t.Fatal(s.Colony, after, need, s.left, next)
			}
			left += len(next)
			filled += count(len(next) > 0 && slices.Contains(traps, 0))
		}
	}
	if left < 2000 || filled < 200 {
		t.Error("rats that were left, and nights in which all traps that were needed were full:", left, filled)
	}
}

// TestP88Rooms: a larger room never makes the greatest number of rats less, nor houses short that were not.
func TestP88Rooms(t *testing.T) {
	l := &luck{24}
	greater := 0
	for i := range 600 {
		c := l.open(sizes(i))
		more := copyOf(c)
		room := &more.Rooms[l.below(len(c.Rooms))]
		*room = min(*room+l.from(1, 10), rat.MaxRoom)
		a, e := rat.Rats(c)
		b, f := rat.Rats(more)
		noError(t, e, f)
		if b.Hi < a.Hi || b.Lo != a.Lo {
			t.Fatal(c, more, a, b)
		}
		greater += count(b.Hi > a.Hi)
	}
	if greater < 50 {
		t.Error("rooms that leave more rats:", greater)
	}
}

// TestP88Runs: a further run never makes the greatest number of rats less, nor houses short that were not.
func TestP88Runs(t *testing.T) {
	l := &luck{25}
	greater, solved := 0, 0
	for i := range 2400 {
		c := l.colony(sizes(i))
		more := copyOf(c)
		for a := range c.Rooms {
			for b := range a {
				if !joined(c, a, b) && len(more.Runs) < rat.MaxRuns && l.below(2) == 0 {
					more.Runs = append(more.Runs, rat.Run{A: a, B: b})
				}
			}
		}
		for _, houses := range lists(len(c.Rooms)) {
			n, _ := rat.Short(c, houses)
			if k, _ := rat.Short(more, houses); k > n {
				t.Fatal(c, more, houses, n, k)
			}
		}
		a, e := rat.Rats(c)
		b, f := rat.Rats(more)
		if e == api.OK && (f != api.OK || b.Hi < a.Hi) {
			t.Fatal(c, more, a, b, e, f)
		}
		greater += count(e == api.OK && b.Hi > a.Hi)
		solved += count(e == api.ErrClash && f == api.OK)
	}
	if greater < 50 || solved < 20 {
		t.Error("runs by which more rats can be left, and by which a colony does not clash any more:", greater, solved)
	}
}

// TestP88Open: where a trap was left open in the last night no rat is left.
func TestP88Open(t *testing.T) {
	l := &luck{26}
	open, none := 0, 0
	for i := range 600 {
		c := l.open(sizes(i))
		after, e := rat.After(c)
		noError(t, e)
		if len(c.Nights) == 0 {
			continue
		}
		for house := range c.Rooms {
			full, e := rat.Full(c, house, len(c.Nights)-1)
			if e != api.OK || !full && after[house] != 0 {
				t.Fatal(c, house, after, e)
			}
			open += count(!full)
		}
		// If traps were left open everywhere, all rats were caught.
		rats, e := rat.Rats(c)
		noError(t, e)
		none += count(rats.Lo == rats.Hi && slices.Max(after) == 0)
		if (rats.Lo == rats.Hi) != (slices.Max(after) == 0) {
			t.Fatal(c, rats, after)
		}
	}
	if open < 200 || none < 50 {
		t.Error("houses with open traps, and colonies without a rat:", open, none)
	}
}

// strange returns a number that is an ordinary one, one at a limit, or any.
func (l *luck) strange() int {
	edges := [...]int{math.MinInt, math.MinInt + 1, -1, 0, 1, 2, 3, 5, 6, 9, 10, 20, 21, 60, 61, 100, 101, math.MaxInt - 1, math.MaxInt}
	if l.below(8) > 0 {
		return l.below(3)
	}
	return edges[l.below(len(edges))]
}

// odd makes one of some numbers in sixty a strange one.
func (l *luck) odd(numbers ...*int) {
	for _, n := range numbers {
		if l.below(60) == 0 {
			*n = l.strange()
		}
	}
}

// strangeColony returns a colony that can be wrong in every place.
func (l *luck) strangeColony() rat.Colony {
	c := l.colony(sizes(l.below(3)))
	for _, numbers := range append(slices.Clone(c.Nights), c.Rooms, c.Traps) {
		for i := range numbers {
			l.odd(&numbers[i])
		}
	}
	for i := range c.Runs {
		l.odd(&c.Runs[i].A, &c.Runs[i].B)
	}
	switch l.below(25) {
	case 0:
		c.Rooms = make([]int, l.below(9))
	case 1:
		c.Traps = make([]int, l.below(9))
	case 2:
		c.Runs = make([]rat.Run, l.below(15))
	case 3:
		c.Nights = make([][]int, l.below(9))
	case 4:
		c.Nights = append(c.Nights, make([]int, l.below(8)))
	case 5:
		if len(c.Runs) > 0 {
			c.Runs = append(c.Runs, c.Runs[0])
		}
	}
	return c
}

// numbers returns about so many, most of which are below a limit.
func (l *luck) numbers(count, limit int) []int {
	var list []int
	for range count + l.below(10)/9 {
		list = append(list, l.below(max(limit, 1)))
	}
	for i := range list {
		l.odd(&list[i])
	}
	return list
}

// strangeQuestion returns a question that can be wrong in every place.
func (l *luck) strangeQuestion() question {
	q := question{colony: l.strangeColony(), from: l.strange(), house: l.strange(), night: l.strange(), reach: l.strange(), percent: l.strange(), weeks: l.strange(), most: l.below(2) == 0}
	q.way = l.numbers(l.below(4), len(q.colony.Rooms))
	q.houses = l.numbers(l.below(4), len(q.colony.Rooms))
	if l.below(4) > 0 {
		slices.Sort(q.houses)
		q.houses = slices.Compact(q.houses)
	}
	for range len(q.colony.Rooms) * len(q.colony.Nights) {
		q.truth.Caught = append(q.truth.Caught, l.numbers(len(q.colony.Rooms), 3))
	}
	q.truth.Left = l.numbers(len(q.colony.Rooms), 3)
	if truth, e := rat.Find(q.colony, q.most); e == api.OK && l.below(2) == 0 {
		q.truth = truth
	}
	return q
}

// answers returns what all functions say to a question.
func answers(q question) []any {
	var list []any
	say := func(x any, e api.Errno) { list = append(list, x, e) }
	list = append(list, rat.Check(q.colony))
	say(rat.Full(q.colony, q.house, q.night))
	say(rat.Origins(q.colony, q.house, q.night))
	say(rat.Way(q.colony, q.from, q.house, q.night))
	say(rat.Gone(q.colony, q.way))
	say(rat.Rats(q.colony))
	say(rat.Starts(q.colony))
	say(rat.Find(q.colony, q.most))
	say(rat.Fits(q.colony, q.truth))
	say(rat.After(q.colony))
	say(rat.Need(q.colony))
	say(rat.Short(q.colony, q.houses))
	say(rat.Clash(q.colony))
	say(rat.Reaches(q.colony, q.house, q.reach))
	say(rat.Baits(q.colony, q.reach))
	say(rat.Apart(q.colony, q.reach))
	say(rat.Grow(q.colony, q.percent, q.weeks))
	return list
}

// TestP01: no question makes a function panic, change its arguments, or answer otherwise when it is asked again; with an error, there is nothing else.
func TestP01(t *testing.T) {
	l := &luck{27}
	fine := 0
	for range 3000 {
		q := l.strangeQuestion()
		before := copied(q)
		first := answers(q)
		fine += count(first[0] == api.OK)
		if !reflect.DeepEqual(q, before) {
			t.Fatal("changed:", before, q)
		}
		if again := answers(q); !reflect.DeepEqual(again, first) {
			t.Fatal(q, first, again)
		}
		for i := 1; i < len(first); i += 2 {
			if first[i+1] != api.OK && !reflect.ValueOf(first[i]).IsZero() {
				t.Fatal(q, i, first[i], first[i+1])
			}
		}
	}
	if fine < 600 || fine > 2400 {
		t.Error("colonies without an error:", fine)
	}
}

// TestR3NilAndEmpty: a list that is nil is the same as an empty one.
func TestR3NilAndEmpty(t *testing.T) {
	bare := ordinary()
	bare.colony.Runs, bare.colony.Nights, bare.way, bare.houses, bare.truth = nil, nil, nil, nil, rat.Truth{Left: list(0, 0, 0)}
	none := ordinary()
	none.colony = rat.Colony{Nights: [][]int{nil}}
	hollow := ordinary()
	hollow.truth.Caught[0], hollow.truth.Left = nil, nil
	for i, q := range []question{bare, none, hollow, {}} {
		first := answers(q)
		for _, l := range []*[]int{&q.colony.Rooms, &q.colony.Traps, &q.way, &q.houses, &q.truth.Left} {
			if *l == nil {
				*l = list()
			}
		}
		if q.colony.Runs == nil {
			q.colony.Runs = []rat.Run{}
		}
		for _, l := range []*[][]int{&q.colony.Nights, &q.truth.Caught} {
			if *l == nil {
				*l = [][]int{}
			}
			for i := range *l {
				(*l)[i] = append(list(), (*l)[i]...)
			}
		}
		for n, x := range answers(q) {
			if v := reflect.ValueOf(x); v.Kind() == reflect.Slice && v.Len() == 0 && reflect.ValueOf(first[n]).Len() == 0 {
				continue
			}
			if !reflect.DeepEqual(x, first[n]) {
				t.Error(i, n, x, first[n])
			}
		}
	}
}

// TestR4Memory: who changes a result changes nothing of what was asked, of other results, or of what is answered next.
func TestR4Memory(t *testing.T) {
	for _, c := range []rat.Colony{examples(), tight(), quiet(list(1, 2, 3))} {
		q := ordinary()
		q.colony = c
		before := copied(q)
		said := answers(q)
		for _, x := range answers(q) {
			switch r := x.(type) {
			case []int:
				clear(r[:cap(r)])
			case []api.Span:
				clear(r[:cap(r)])
			case rat.Truth:
				for _, l := range append(r.Caught[:cap(r.Caught)], r.Left) {
					clear(l[:cap(l)])
				}
			}
		}
		if again := answers(q); !reflect.DeepEqual(again, said) || !reflect.DeepEqual(q, before) {
			t.Error(again, said)
		}
	}
	// The lists of a truth share no memory with each other either.
	truth, e := rat.Find(examples(), true)
	noError(t, e)
	left := slices.Clone(truth.Left)
	for _, l := range truth.Caught {
		clear(l[:cap(l)])
	}
	if clear(truth.Caught[:cap(truth.Caught)]); !slices.Equal(truth.Left, left) || slices.Max(left) == 0 {
		t.Error(truth, left)
	}
}

// spare is a copy of a list behind which there is room, with the same elements.
func spare[T any](list []T) []T { return slices.Concat(list, list)[:len(list)] }

// twice reports whether a list has the elements of another one, and the room behind it has them, too.
func twice[T any](list, want []T) bool {
	return reflect.DeepEqual(list[:2*len(want)], slices.Repeat(want, 2))
}

// TestR4Room: no function writes behind the end of a list.
func TestR4Room(t *testing.T) {
	want, q := ordinary(), ordinary()
	q.colony.Rooms, q.colony.Traps, q.colony.Runs = spare(q.colony.Rooms), spare(q.colony.Traps), spare(q.colony.Runs)
	q.way, q.houses, q.truth.Left = spare(q.way), spare(q.houses), spare(q.truth.Left)
	for _, lists := range []*[][]int{&q.colony.Nights, &q.truth.Caught} {
		for i, l := range *lists {
			(*lists)[i] = spare(l)
		}
		*lists = spare(*lists)
	}
	answers(q)
	fine := twice(q.colony.Rooms, want.colony.Rooms) && twice(q.colony.Traps, want.colony.Traps) && twice(q.colony.Runs, want.colony.Runs)
	fine = fine && twice(q.way, want.way) && twice(q.houses, want.houses) && twice(q.truth.Left, want.truth.Left)
	fine = fine && twice(q.colony.Nights, want.colony.Nights) && twice(q.truth.Caught, want.truth.Caught)
	for i, l := range q.colony.Nights {
		fine = fine && twice(l, want.colony.Nights[i])
	}
	for i, l := range q.truth.Caught {
		fine = fine && twice(l, want.truth.Caught[i])
	}
	if !fine {
		t.Error(q)
	}
}

// TestGreatestColony asks all functions of the greatest colony: all houses full in all nights, and rats that can have come from everywhere.
func TestGreatestColony(t *testing.T) {
	nine := slices.Repeat(list(9), 6)
	q := question{from: 5, house: 2, night: 5, reach: 3, percent: 100, weeks: 20, most: true, way: list(5, 0, 1, 2, 3, 4), houses: list(0, 1, 2, 3, 4, 5)}
	q.colony = rat.Colony{Rooms: slices.Repeat(list(60), 6), Traps: nine, Nights: slices.Repeat([][]int{nine}, 6)}
	for a := range 6 {
		for b := range a {
			if len(q.colony.Runs) < rat.MaxRuns {
				q.colony.Runs = append(q.colony.Runs, rat.Run{A: a, B: b})
			}
		}
	}
	said := answers(q)
	for i, x := range []struct{ said, want any }{
		{said[0], api.OK},
		{said[1], true},
		{said[3], list(0, 1, 2, 3, 4, 5)},
		{said[7], true},
		{said[9], span(324, 360)},
		{said[11], slices.Repeat([]api.Span{span(24, 60)}, 6)},
		{said[17], slices.Repeat(list(36), 6)},
		{said[19], slices.Repeat(list(36), 6)},
		{said[22], api.ErrWrong},
		{said[24], api.ErrNone},
		{said[25], list(0, 1, 2, 3, 4, 5)},
		{said[27], list(0)},
		{said[29], list(0)},
		{said[31], span(0, 36<<20)},
	} {
		if !reflect.DeepEqual(x.said, x.want) {
			t.Error(i, x.said, x.want)
		}
	}
	// If there was room just for those that were caught, no rat is left, and with any less room all houses are short.
	q.colony.Rooms = slices.Repeat(list(54), 6)
	if rats, e := rat.Rats(q.colony); rats != span(324, 324) || e != api.OK {
		t.Error(rats, e)
	}
	q.colony.Rooms[3]--
	if houses, e := rat.Clash(q.colony); !slices.Equal(houses, list(0, 1, 2, 3, 4, 5)) || e != api.OK {
		t.Error(houses, e)
	}
}
