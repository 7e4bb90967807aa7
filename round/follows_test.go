package round_test

import (
	"math"
	"reflect"
	"slices"
	"testing"

	"laystall/api"
	"laystall/round"
	"laystall/street"
)

// TestP37Safe: a round that is safe is Done with all contents, and one that is not is not Done with some.
func TestP37Safe(t *testing.T) {
	l := &luck{21}
	var count [2]int
	for range 400 {
		d := l.day(4, 5)
		bins := l.order(d)
		for cart := range d.Carts {
			if l.below(2) == 0 {
				l.near(&d.Carts[cart], total(l.contents(d), bins))
			}
			always := true
			allContents(d, func(contents []int) {
				o, e := round.Run(d, cart, bins, contents)
				noError(t, e)
				always = always && o.Kind == round.Done
			})
			is, e := round.Safe(d, cart, bins)
			noError(t, e)
			if is != always {
				t.Fatal(d, cart, bins, is, always)
			}
			if is {
				count[0]++
			} else {
				count[1]++
			}
		}
	}
	if count[0] < 100 || count[1] < 100 {
		t.Error("rounds that are safe, and others:", count)
	}
}

// TestP37NeverWorse: with bins that hold less, or fewer bins, a safe round stays so.
func TestP37NeverWorse(t *testing.T) {
	l := &luck{22}
	for range 1000 {
		d := l.day(5, 400)
		bins := l.order(d)
		for cart := range d.Carts {
			if is, e := round.Safe(d, cart, bins); !is || e != api.OK {
				noError(t, e)
				continue
			}
			for _, fewer := range choices(bins) {
				if is, e := round.Safe(d, cart, fewer); !is || e != api.OK {
					t.Fatal(d, cart, bins, fewer, e)
				}
			}
			less := d
			less.Bins = slices.Clone(d.Bins)
			for i, b := range d.Bins {
				less.Bins[i].Holds.Hi -= l.below(b.Holds.Hi - b.Holds.Lo + 1)
			}
			if is, e := round.Safe(less, cart, bins); !is || e != api.OK {
				t.Fatal(d, less, cart, bins, e)
			}
		}
	}
}

// TestP37Bound: no plan uses fewer carts than a bound by any weights, and where these are too much there is none.
func TestP37Bound(t *testing.T) {
	l := &luck{23}
	for range 500 {
		d := l.busy()
		bins := l.some(d)
		_, used, e := round.Fewest(d, bins)
		for range 5 {
			var weights []int
			for range d.Bins {
				weights = append(weights, l.below(round.MaxWeight+1))
			}
			bound, f := round.Bound(d, bins, weights)
			if f == api.ErrNone && e != api.ErrNone || f == api.OK && e == api.OK && used < bound || f != api.OK && f != api.ErrNone {
				t.Fatal(d, bins, weights, bound, f, used, e)
			}
		}
	}
}

// TestP37Full: a bin at which a cart is Full is one at which it can be.
func TestP37Full(t *testing.T) {
	l := &luck{24}
	full := 0
	for range 2000 {
		d := l.day(6, 400)
		bins, contents := l.order(d), l.contents(d)
		for cart := range d.Carts {
			o, e := round.Run(d, cart, bins, contents)
			fills, f := round.Fills(d, cart, bins)
			noError(t, e, f)
			if o.Kind != round.Full {
				continue
			}
			full++
			if !slices.Contains(fills, o.Bin) {
				t.Fatal(d, cart, bins, contents, o, fills)
			}
		}
	}
	if full < 100 {
		t.Error("rounds that end Full:", full)
	}
}

// TestP37Margin: with as much more in all bins a round is safe, and with one pound more it is not.
func TestP37Margin(t *testing.T) {
	l := &luck{25}
	tight := 0
	for range 1000 {
		d := l.day(4, 100)
		for i := range d.Bins {
			d.Bins[i].Holds = span(0, d.Bins[i].Holds.Hi/4)
		}
		bins := l.order(d)
		more := func(pounds int) round.Day {
			next := d
			next.Bins = slices.Clone(d.Bins)
			for i := range next.Bins {
				next.Bins[i].Holds.Hi += pounds
			}
			return next
		}
		for cart := range d.Carts {
			margin, e := round.Margin(d, cart, bins)
			if e != api.OK || margin > 250 {
				continue
			}
			tight++
			is, f := round.Safe(more(margin), cart, bins)
			still, g := round.Safe(more(margin+1), cart, bins)
			if !is || still || f != api.OK || g != api.OK {
				t.Fatal(d, cart, bins, margin, is, still, f, g)
			}
		}
	}
	if tight < 100 {
		t.Error("rounds with a margin that is not the greatest:", tight)
	}
}

// TestP04: each bin of a plan is emptied, whatever the bins hold, by a round that the laws of streets allow; or the cart is full, and the bin is told.
func TestP04(t *testing.T) {
	l := &luck{26}
	for range 300 {
		d := l.busy()
		bins := l.some(d)
		plan, _, e := round.Fewest(d, bins)
		if e != api.OK {
			continue
		}
		for range 5 {
			contents := l.contents(d)
			var emptied []int
			for cart, o := range plan {
				if len(o) == 0 {
					continue
				}
				end, e := round.Run(d, cart, o, contents)
				left, f := round.Left(d, cart, o, contents, street.MaxDay)
				if end.Kind != round.Done || len(left) != 0 || e != api.OK || f != api.OK {
					t.Fatal(d, bins, plan, contents, end, left, e, f)
				}
				if want, _ := told(d, cart, o, contents); end != want {
					t.Fatal(d, bins, plan, contents, end, want)
				}
				emptied = append(emptied, o...)
			}
			if slices.Sort(emptied); !slices.Equal(emptied, bins) {
				t.Fatal(d, bins, plan)
			}
		}
	}
}

// strange returns a number that is mostly an ordinary one, and else one at a limit, or any.
func (l *luck) strange() int {
	edges := list(math.MinInt, math.MinInt+1, -2, -1, 3, 4, 6, 7, 9, 10, 15, 16, 100, 101, 240, 241, 400, 401, 900, 901, 2000, 2001, math.MaxInt-1, math.MaxInt)
	if l.below(10) > 0 {
		return l.below(3)
	}
	return edges[l.below(len(edges))]
}

// strangeDay returns a day that is wrong in some places, or in none.
func (l *luck) strangeDay() round.Day {
	d := l.day(6, 300)
	odd := func(numbers ...*int) {
		for _, n := range numbers {
			if l.below(100) == 0 {
				*n = l.strange()
			}
		}
	}
	odd(&d.Town.Corners, &d.Yard, &d.Tip)
	for i := range d.Town.Streets {
		s := &d.Town.Streets[i]
		odd(&s.From, &s.To, &s.Minutes, &s.Up, &s.Wide, &s.Bears, &s.Shut.Lo, &s.Shut.Hi)
	}
	for i := range d.Bins {
		b := &d.Bins[i]
		odd(&b.Corner, &b.Minutes, &b.Holds.Lo, &b.Holds.Hi)
		for k := range b.Days {
			odd(&b.Days[k])
		}
	}
	for i := range d.Carts {
		c := &d.Carts[i]
		odd(&c.Wide, &c.Holds, &c.Lifts, &c.Start, &c.Until)
	}
	switch l.below(20) {
	case 0:
		d.Bins = make([]round.Bin, l.below(9))
	case 1:
		d.Carts = make([]round.Cart, l.below(6))
	case 2:
		d.Town = street.Town{}
	}
	return d
}

// strangeQuestion returns a question that can be wrong in every place.
func (l *luck) strangeQuestion() question {
	q := question{day: l.strangeDay(), cart: l.strange(), bin: l.strange(), at: l.strange(), weekday: l.strange()}
	q.round, q.bins, q.contents = l.order(q.day), l.some(q.day), most(q.day, 0)
	for range q.day.Bins {
		q.weights = append(q.weights, l.below(101))
	}
	for range q.day.Carts {
		q.plan = append(q.plan, l.order(q.day))
	}
	for _, numbers := range []*[]int{&q.round, &q.bins, &q.contents, &q.weights} {
		if l.below(4) == 0 {
			*numbers = append(*numbers, l.strange())
		}
		for i := range *numbers {
			if l.below(20) == 0 {
				(*numbers)[i] = l.strange()
			}
		}
	}
	if l.below(4) == 0 {
		q.plan = append(q.plan, list(l.strange(), l.strange()))
	}
	return q
}

// copied returns a question that shares no memory with another one.
func copied(q question) question {
	q.day.Town.Streets, q.day.Bins, q.day.Carts = slices.Clone(q.day.Town.Streets), slices.Clone(q.day.Bins), slices.Clone(q.day.Carts)
	for i := range q.day.Bins {
		q.day.Bins[i].Days = slices.Clone(q.day.Bins[i].Days)
	}
	q.round, q.contents, q.bins, q.weights, q.plan = slices.Clone(q.round), slices.Clone(q.contents), slices.Clone(q.bins), slices.Clone(q.weights), slices.Clone(q.plan)
	for i := range q.plan {
		q.plan[i] = slices.Clone(q.plan[i])
	}
	return q
}

// answers returns what all functions say to a question.
func answers(q question) []any {
	var said []any
	say := func(x ...any) { said = append(said, x...) }
	two := func(x any, e api.Errno) { say(x, e) }
	say(round.Check(q.day))
	two(round.Run(q.day, q.cart, q.round, q.contents))
	two(round.Worst(q.day, q.cart, q.round))
	two(round.Safe(q.day, q.cart, q.round))
	two(round.Left(q.day, q.cart, q.round, q.contents, q.at))
	two(round.Fills(q.day, q.cart, q.round))
	two(round.Filled(q.day, q.cart, q.round, q.bin))
	two(round.Margin(q.day, q.cart, q.round))
	order, minute, e := round.Order(q.day, q.cart, q.bins)
	say(order, minute, e)
	two(round.Hard(q.day))
	plan, many, e := round.Fewest(q.day, q.bins)
	say(plan, many, e)
	two(round.Covers(q.day, q.bins, q.plan))
	two(round.Bound(q.day, q.bins, q.weights))
	two(round.Spare(q.day, q.bins))
	two(round.Due(q.day, q.weekday))
	two(round.Weekly(q.day))
	return said
}

// TestP01: no question makes a function panic, change its arguments, or answer otherwise when it is asked again.
func TestP01(t *testing.T) {
	l := &luck{27}
	fine := 0
	for range 2000 {
		q := l.strangeQuestion()
		before := copied(q)
		first := answers(q)
		if first[0] == api.OK {
			fine++
		}
		if !reflect.DeepEqual(q, before) {
			t.Fatal("changed:", before, q)
		}
		if again := answers(q); !reflect.DeepEqual(again, first) {
			t.Fatal(q, first, again)
		}
	}
	if fine < 500 || fine > 1500 {
		t.Error("days without an error:", fine)
	}
}

// TestLongLists: lists that are longer than any that is right have an error, too, or are no plan.
func TestLongLists(t *testing.T) {
	long := make([]int, 1<<20)
	d := examples()
	if _, e := round.Safe(d, 0, long); e != api.ErrTwice {
		t.Error(e)
	}
	if _, _, e := round.Fewest(d, long); e != api.ErrOrder {
		t.Error(e)
	}
	if _, e := round.Run(d, 0, nil, long); e != api.ErrCount {
		t.Error(e)
	}
	if is, e := round.Covers(d, nil, [][]int{long, long}); is || e != api.OK {
		t.Error(is, e)
	}
	d.Bins[0].Days = long
	if e := round.Check(d); e != api.ErrOrder {
		t.Error(e)
	}
}

// TestR3NilAndEmpty: a list that is nil is the same as an empty one.
func TestR3NilAndEmpty(t *testing.T) {
	for _, carts := range [][]round.Cart{examples().Carts, nil} {
		q := ordinary()
		q.day = round.Day{Town: street.Town{Corners: 1}, Carts: carts}
		q.round, q.contents, q.bins, q.weights = nil, nil, nil, nil
		q.plan = make([][]int, len(carts))
		first := answers(q)
		q.day.Town.Streets, q.day.Bins, q.day.Carts = []street.Street{}, []round.Bin{}, append([]round.Cart{}, carts...)
		q.round, q.contents, q.bins, q.weights, q.plan = list(), list(), list(), list(), append([][]int{}, q.plan...)
		for i := range q.plan {
			q.plan[i] = list()
		}
		for i, x := range answers(q) {
			v, w := reflect.ValueOf(x), reflect.ValueOf(first[i])
			if v.Kind() == reflect.Slice && v.Len() == 0 && w.Len() == 0 {
				continue
			}
			if !reflect.DeepEqual(x, first[i]) {
				t.Error(i, x, first[i])
			}
		}
	}
}

// TestR4Memory: who changes a result changes nothing of what was asked, of what else was answered, nor of what is answered next.
func TestR4Memory(t *testing.T) {
	q := ordinary()
	q.day.Carts[1].Holds = 450 // holds two bins, so that a plan of all has a round with some
	q.bins = list(0, 1, 2)
	before := copied(q)
	said := answers(q)
	for _, x := range answers(q) {
		switch r := x.(type) {
		case []int:
			clear(r[:cap(r)])
		case [][]int:
			other := slices.Clone(r[len(r)-1])
			clear(r[0][:cap(r[0])])
			if !slices.Equal(r[len(r)-1], other) {
				t.Error("rounds of a plan share memory:", r)
			}
		}
	}
	if again := answers(q); !reflect.DeepEqual(again, said) || !reflect.DeepEqual(q, before) {
		t.Error(again, said)
	}
}

// TestGreatestDay asks for all bins and carts of a day of the greatest size.
func TestGreatestDay(t *testing.T) {
	d, bins := greatest(), list(0, 1, 2, 3, 4, 5)
	for i, x := range []struct {
		holds, many int
		e           api.Errno
	}{{900, 1, api.OK}, {428, 2, api.OK}, {427, 3, api.OK}, {285, 3, api.OK}, {284, 0, api.ErrNone}} {
		for cart := range d.Carts {
			d.Carts[cart].Holds = x.holds
		}
		plan, many, e := round.Fewest(d, bins)
		_, f := round.Spare(d, bins)
		if many != x.many || e != x.e || f != x.e || e == api.OK && (!isPlan(d, bins, plan) || uses(plan) != many) {
			t.Error(i, plan, many, e, f)
		}
		bound, g := round.Bound(d, bins, slices.Repeat(list(round.MaxWeight), 6))
		if g == api.OK && e == api.OK && bound > many {
			t.Error(i, bound, g)
		}
		want := slices.Repeat(list(x.many), round.Week)
		if x.e != api.OK {
			want = slices.Repeat(list(None), round.Week)
		}
		if week, e := round.Weekly(d); !slices.Equal(week, want) || e != api.OK {
			t.Error(i, week, e)
		}
	}
}
