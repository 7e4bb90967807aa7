package rat_test

import (
	"math"
	"slices"
	"testing"

	"laystall/api"
	"laystall/rat"
)

// reachedOf returns the houses that a bait reaches.
func reachedOf(far [][]int, bait, reach int) []int {
	var reached []int
	for house, n := range far[bait] {
		if n <= reach {
			reached = append(reached, house)
		}
	}
	return reached
}

// TestP86Reaches asks all houses of colonies for all reaches, by how far they are from each other.
func TestP86Reaches(t *testing.T) {
	l := &luck{12}
	further := 0
	for i := range 300 {
		c := l.colony(sizes(i))
		if i%4 == 0 {
			c = path(l, rat.MaxHouses)
		}
		far := steps(c)
		for house := range c.Rooms {
			for reach := range rat.MaxReach + 1 {
				got, e := rat.Reaches(c, house, reach)
				if !slices.Equal(got, reachedOf(far, house, reach)) || e != api.OK {
					t.Fatal(c, house, reach, got, e)
				}
				further += count(reach > 1 && !slices.Equal(got, reachedOf(far, house, reach-1)))
			}
		}
	}
	if further < 200 {
		t.Error("baits that reach further along more runs:", further)
	}
}

// path returns a colony of houses in a row, in any order.
func path(l *luck, houses int) rat.Colony {
	c := quiet(make([]int, houses))
	order := l.order(houses)
	for i, house := range order {
		c.Rooms[house] = l.from(0, 2)
		if i > 0 {
			c.Runs = append(c.Runs, rat.Run{A: house, B: order[i-1]})
		}
	}
	return c
}

// baitsOf returns the first of the shortest lists of houses in which baits reach some houses.
func baitsOf(c rat.Colony, haunts []int, reach int) []int {
	far := steps(c)
	for _, baits := range lists(len(c.Rooms)) {
		enough := true
		for _, house := range haunts {
			enough = enough && slices.ContainsFunc(baits, func(bait int) bool { return far[bait][house] <= reach })
		}
		if enough {
			return baits
		}
	}
	return nil
}

// apartOf returns the first of the longest lists of some houses no two of which a bait reaches.
func apartOf(c rat.Colony, haunts []int, reach int) []int {
	far := steps(c)
	var best []int
	for _, houses := range lists(len(c.Rooms)) {
		apart := true
		for i, a := range houses {
			apart = apart && slices.Contains(haunts, a)
			for _, b := range houses[:i] {
				apart = apart && !slices.ContainsFunc(far, func(from []int) bool { return from[a] <= reach && from[b] <= reach })
			}
		}
		if apart && len(houses) > len(best) {
			best = houses
		}
	}
	return best
}

// TestP86Baits goes through all lists of houses for the fewest baits, and for the most houses that are apart.
func TestP86Baits(t *testing.T) {
	l := &luck{13}
	some, several, elsewhere, fewer := 0, 0, 0, 0
	for i := range 900 {
		c := l.open(sizes(i))
		if i%4 == 0 {
			c = path(l, l.from(1, rat.MaxHouses))
		}
		var haunts []int
		w := ask(c)
		for house, n := range w.after(w.here) {
			if n > 0 {
				haunts = append(haunts, house)
			}
		}
		for reach := range rat.MaxReach + 1 {
			baits, e := rat.Baits(c, reach)
			apart, f := rat.Apart(c, reach)
			if !slices.Equal(baits, baitsOf(c, haunts, reach)) || !slices.Equal(apart, apartOf(c, haunts, reach)) || e != api.OK || f != api.OK {
				t.Fatal(c, haunts, reach, baits, apart, e, f)
			}
			some += count(len(haunts) > 0 && len(haunts) < len(c.Rooms))
			several += count(reach > 0 && len(apart) > 1)
			elsewhere += count(slices.ContainsFunc(baits, func(bait int) bool { return !slices.Contains(haunts, bait) }))
			fewer += count(len(apart) < len(baits))
		}
	}
	if some < 200 || several < 100 || elsewhere < 20 || fewer == 0 {
		t.Error("colonies with rats in some houses, with several houses apart, with baits where no rat is, and with more baits than houses apart:", some, several, elsewhere, fewer)
	}
}

// TestP86Edges: lines and rings of houses, houses without rats, and a ring in which more baits are needed than houses are apart.
func TestP86Edges(t *testing.T) {
	ones := func(n int) []int { return slices.Repeat(list(1), n) }
	line := quiet(ones(6))
	for house := range 5 {
		line.Runs = append(line.Runs, rat.Run{A: house + 1, B: house})
	}
	ring := copyOf(line)
	ring.Runs = append(ring.Runs, rat.Run{A: 0, B: 5})
	four := quiet(ones(4), rat.Run{A: 0, B: 1}, rat.Run{A: 1, B: 2}, rat.Run{A: 2, B: 3}, rat.Run{A: 3, B: 0})
	ends := copyOf(line)
	ends.Rooms = list(1, 0, 0, 0, 0, 60)
	for i, x := range []struct {
		c            rat.Colony
		reach        int
		baits, apart []int
	}{
		{quiet(list(0, 0)), 0, nil, nil},
		{quiet(list(0, 0)), 3, nil, nil},
		{quiet(list(0, 1)), 3, list(1), list(1)},
		{quiet(ones(6)), 3, list(0, 1, 2, 3, 4, 5), list(0, 1, 2, 3, 4, 5)},
		{line, 0, list(0, 1, 2, 3, 4, 5), list(0, 1, 2, 3, 4, 5)},
		{line, 1, list(1, 4), list(0, 3)},
		{line, 2, list(0, 3), list(0, 5)},
		{line, 3, list(2), list(0)},
		{ring, 1, list(0, 3), list(0, 3)},
		{ring, 2, list(0, 1), list(0)},
		{ring, 3, list(0), list(0)},
		{four, 1, list(0, 1), list(0)},
		{ends, 2, list(0, 3), list(0, 5)},
		{ends, 3, list(2), list(0)},
		{examples(), 0, list(1), list(1)},
		{examples(), 1, list(0), list(1)},
	} {
		baits, e := rat.Baits(x.c, x.reach)
		apart, f := rat.Apart(x.c, x.reach)
		if !slices.Equal(baits, x.baits) || !slices.Equal(apart, x.apart) || e != api.OK || f != api.OK {
			t.Error(i, baits, apart, e, f)
		}
	}
}

// TestP86Errors asks for reaches and houses that are not allowed; a wrong reach comes before a colony that clashes, a house that does not exist before both.
func TestP86Errors(t *testing.T) {
	for _, x := range []struct {
		c     rat.Colony
		reach int
		e     api.Errno
	}{
		{examples(), 3, api.OK},
		{examples(), 4, api.ErrRange},
		{examples(), -1, api.ErrRange},
		{examples(), math.MaxInt, api.ErrRange},
		{examples(), math.MinInt, api.ErrRange},
		{tight(), 4, api.ErrRange},
		{tight(), 3, api.ErrClash},
		{rat.Colony{}, 4, api.ErrCount},
	} {
		baits, e := rat.Baits(x.c, x.reach)
		apart, f := rat.Apart(x.c, x.reach)
		if e != x.e || f != x.e || e != api.OK && (baits != nil || apart != nil) {
			t.Error(x, baits, apart, e, f)
		}
	}
	for _, x := range []struct {
		c            rat.Colony
		house, reach int
		e            api.Errno
	}{
		{examples(), 2, 3, api.OK},
		{tight(), 2, 3, api.OK},
		{examples(), 3, 0, api.ErrNoSuch},
		{examples(), -1, 4, api.ErrNoSuch},
		{examples(), math.MaxInt, math.MaxInt, api.ErrNoSuch},
		{examples(), 2, 4, api.ErrRange},
		{examples(), 0, -1, api.ErrRange},
		{examples(), 0, math.MinInt, api.ErrRange},
		{rat.Colony{}, 3, 4, api.ErrCount},
	} {
		if l, e := rat.Reaches(x.c, x.house, x.reach); e != x.e || (l != nil) != (x.e == api.OK) {
			t.Error(x, l, e)
		}
	}
}

// TestExample4 asks for the houses of the chapter's fourth example.
func TestExample4(t *testing.T) {
	after, e := rat.After(examples())
	need, f := rat.Need(examples())
	baits, g := rat.Baits(examples(), 1)
	reached, h := rat.Reaches(examples(), 0, 1)
	noError(t, e, f, g, h)
	if !slices.Equal(after, list(0, 4, 0)) || !slices.Equal(need, list(4, 4, 4)) || !slices.Equal(baits, list(0)) || !slices.Equal(reached, list(0, 1)) {
		t.Error(after, need, baits, reached)
	}
}
