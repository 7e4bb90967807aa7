package round_test

import (
	"slices"
	"testing"

	"laystall/api"
	"laystall/round"
	"laystall/street"
)

// None is no bin, and no minute.
const None = round.None

// span is one from lo to hi.
func span(lo, hi int) api.Span { return api.Span{Lo: lo, Hi: hi} }

// row is a town of corners in a row, with streets of 10 minutes, of which the first one takes a minute more for each hundredweight.
func row(corners int) street.Town {
	t := street.Town{Corners: corners}
	for i := range corners - 1 {
		t.Streets = append(t.Streets, street.Street{From: i, To: i + 1, Minutes: 10, Wide: 9, Bears: 9, Back: true, Shut: span(1, 0)})
	}
	t.Streets[0].Up = 1
	return t
}

// examples is the day of the chapter's examples.
func examples() round.Day {
	return round.Day{
		Town: row(3), Yard: 0, Tip: 2,
		Bins: []round.Bin{
			{Corner: 1, Minutes: 5, Holds: span(100, 250), Days: []int{0, 3}},
			{Corner: 2, Minutes: 5, Holds: span(50, 300), Days: []int{0}},
			{Corner: 0, Minutes: 5, Holds: span(200, 200), Days: []int{3}},
		},
		Carts: []round.Cart{
			{Wide: 3, Holds: 700, Lifts: 2000, Until: 60},
			{Wide: 3, Holds: 400, Lifts: 600, Until: 60},
		},
	}
}

// out is an outcome.
func out(k round.Kind, bin, minute, load int) round.Outcome {
	return round.Outcome{Kind: k, Bin: bin, Minute: minute, Load: load}
}

func list(n ...int) []int { return n }

// told is a round by the words of the chapter, step by step: its outcome, and when each bin is emptied.
func told(d round.Day, cart int, bins, contents []int) (round.Outcome, []int) {
	c := d.Carts[cart]
	corner, minute, load, lifted := d.Yard, c.Start, 0, 0
	var ready []int
	reach := func(to int) int {
		if minute > street.MaxDay {
			return None
		}
		hundreds := 0
		for 100*hundreds < load {
			hundreds++
		}
		table, e := street.Earliest(d.Town, street.Cart{Wide: c.Wide, Load: hundreds}, corner, minute)
		if e != api.OK {
			panic(e)
		}
		return table[to]
	}
	for _, bin := range bins {
		then := reach(d.Bins[bin].Corner)
		switch {
		case then == None:
			return out(round.Late, bin, minute, load), ready
		case load+contents[bin] > c.Holds:
			return out(round.Full, bin, then, load), ready
		case lifted+contents[bin] > c.Lifts:
			return out(round.Tired, bin, then, load), ready
		}
		corner, minute = d.Bins[bin].Corner, then+d.Bins[bin].Minutes
		load, lifted = load+contents[bin], lifted+contents[bin]
		ready = append(ready, minute)
	}
	then := reach(d.Tip)
	if then == None || then > c.Until {
		return out(round.Late, None, minute, load), ready
	}
	return out(round.Done, None, then, load), ready
}

// most are the greatest contents, with more in each bin.
func most(d round.Day, more int) []int {
	var contents []int
	for _, b := range d.Bins {
		contents = append(contents, b.Holds.Hi+more)
	}
	return contents
}

// done reports whether a round is Done with some contents.
func done(d round.Day, cart int, bins, contents []int) bool {
	o, _ := told(d, cart, bins, contents)
	return o.Kind == round.Done
}

// allContents goes through all contents of a day.
func allContents(d round.Day, come func(contents []int)) {
	contents := make([]int, len(d.Bins))
	var fill func(bin int)
	fill = func(bin int) {
		if bin == len(contents) {
			come(slices.Clone(contents))
			return
		}
		for n := d.Bins[bin].Holds.Lo; n <= d.Bins[bin].Holds.Hi; n++ {
			contents[bin] = n
			fill(bin + 1)
		}
	}
	fill(0)
}

// orders returns all orders of some bins.
func orders(bins []int) [][]int {
	if len(bins) == 0 {
		return [][]int{nil}
	}
	var all [][]int
	for i, bin := range bins {
		for _, rest := range orders(slices.Concat(bins[:i], bins[i+1:])) {
			all = append(all, append(list(bin), rest...))
		}
	}
	return all
}

// soonest goes through all orders of some bins, and returns the earliest minute at the tip; None if no order is safe.
func soonest(d round.Day, cart int, bins []int) int {
	minute := None
	for _, o := range orders(bins) {
		end, _ := told(d, cart, o, most(d, 0))
		if end.Kind == round.Done && (minute == None || end.Minute < minute) {
			minute = end.Minute
		}
	}
	return minute
}

// choices returns all lists of some bins, in their order, of which each is a part.
func choices(bins []int) [][]int {
	var all [][]int
	for bits := range 1 << len(bins) {
		var part []int
		for i, bin := range bins {
			if bits>>i&1 == 1 {
				part = append(part, bin)
			}
		}
		all = append(all, part)
	}
	return all
}

// powers tells which parts of some bins each cart can empty, by the bits of the bins.
func powers(d round.Day, bins []int) []map[int]bool {
	can := make([]map[int]bool, len(d.Carts))
	for cart := range d.Carts {
		can[cart] = map[int]bool{}
		for _, part := range choices(bins) {
			can[cart][bits(part)] = soonest(d, cart, part) != None
		}
	}
	return can
}

func bits(bins []int) int {
	n := 0
	for _, bin := range bins {
		n += 1 << bin
	}
	return n
}

// fewest gives each bin to each cart, and returns the fewest carts that can empty what they got; None if they never can.
func fewest(bins []int, can []map[int]bool) int {
	best := None
	got := make([]int, len(can))
	var give func(i int)
	give = func(i int) {
		if i < len(bins) {
			for cart := range can {
				got[cart] += 1 << bins[i]
				give(i + 1)
				got[cart] -= 1 << bins[i]
			}
			return
		}
		used := 0
		for cart, part := range got {
			if part != 0 && !can[cart][part] {
				return
			}
			if part != 0 {
				used++
			}
		}
		if best == None || used < best {
			best = used
		}
	}
	give(0)
	return best
}

// total is the sum of the numbers of some bins.
func total(numbers, bins []int) int {
	n := 0
	for _, bin := range bins {
		n += numbers[bin]
	}
	return n
}

// luck is a row of numbers that is the same in each run.
type luck struct{ state uint64 }

// below returns a number from 0 to n - 1.
func (l *luck) below(n int) int {
	l.state = l.state*6364136223846793005 + 1442695040888963407
	return int((l.state >> 33) % uint64(n))
}

// town returns a town in which most corners can be come to.
func (l *luck) town() street.Town {
	t := street.Town{Corners: 2 + l.below(4)}
	for i := range t.Corners + l.below(6) {
		from := i % t.Corners
		s := street.Street{From: from, To: (from + 1 + l.below(t.Corners-1)) % t.Corners, Minutes: 1 + l.below(20), Up: l.below(4), Wide: 9, Bears: 9, Back: l.below(4) > 0, Shut: span(1, 0)}
		if l.below(3) == 0 {
			s.Shut.Lo = l.below(200)
			s.Shut.Hi = s.Shut.Lo + l.below(40)
		}
		if l.below(6) == 0 {
			s.Bears = l.below(8)
		}
		if l.below(6) == 0 {
			s.Wide = 1 + l.below(5)
		}
		t.Streets = append(t.Streets, s)
	}
	return t
}

// day returns a valid day with at most so many bins, of which each holds a span of at most so many pounds.
func (l *luck) day(bins, width int) round.Day {
	d := round.Day{Town: l.town()}
	d.Yard, d.Tip = l.below(d.Town.Corners), l.below(d.Town.Corners)
	for range l.below(bins + 1) {
		b := round.Bin{Corner: l.below(d.Town.Corners), Minutes: l.below(round.MaxEmpty + 1)}
		b.Holds.Lo = l.below(round.MaxBin - width + 1)
		b.Holds.Hi = b.Holds.Lo + l.below(width+1)
		for weekday := range round.Week {
			if l.below(2) == 0 {
				b.Days = append(b.Days, weekday)
			}
		}
		d.Bins = append(d.Bins, b)
	}
	for range l.below(round.MaxCarts + 1) {
		d.Carts = append(d.Carts, l.cart())
	}
	return d
}

// cart returns a valid cart.
func (l *luck) cart() round.Cart {
	c := round.Cart{Wide: 1 + l.below(4), Holds: l.below(round.MaxHolds + 1), Lifts: l.below(1200), Start: l.below(100)}
	c.Until = min(c.Start+l.below(200), street.MaxDay)
	return c
}

// near changes what a cart holds and lifts to nearly what some contents weigh.
func (l *luck) near(c *round.Cart, pounds int) {
	c.Holds = min(max(pounds+l.below(5)-2, 0), round.MaxHolds)
	c.Lifts = min(max(pounds+l.below(9)-2, 0), round.MaxLifts)
}

// busy returns a valid day with the most carts, of which each holds about as much as a bin or two.
func (l *luck) busy() round.Day {
	d := l.day(4, 300)
	d.Carts = nil
	for range round.MaxCarts {
		c := l.cart()
		c.Until = street.MaxDay
		bins := l.order(d)
		l.near(&c, total(most(d, 0), bins[:min(len(bins), 1+l.below(2))]))
		d.Carts = append(d.Carts, c)
	}
	return d
}

// some returns some bins of a day, in increasing order.
func (l *luck) some(d round.Day) []int {
	var bins []int
	for bin := range d.Bins {
		if l.below(4) > 0 {
			bins = append(bins, bin)
		}
	}
	return bins
}

// order returns some bins of a day, in any order.
func (l *luck) order(d round.Day) []int {
	bins := l.some(d)
	for i := range bins {
		k := l.below(i + 1)
		bins[i], bins[k] = bins[k], bins[i]
	}
	return bins
}

// contents returns contents of a day.
func (l *luck) contents(d round.Day) []int {
	var contents []int
	for _, b := range d.Bins {
		contents = append(contents, b.Holds.Lo+l.below(b.Holds.Hi-b.Holds.Lo+1))
	}
	return contents
}

// noError fails a test if a call that has no reason for it returns an error.
func noError(t *testing.T, errors ...api.Errno) {
	t.Helper()
	for _, e := range errors {
		if e != api.OK {
			t.Fatal("error", e)
		}
	}
}
