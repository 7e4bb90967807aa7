package rat_test

import (
	"slices"
	"testing"

	"laystall/api"
	"laystall/rat"
)

// list makes a list of numbers, span a span.
func list(numbers ...int) []int  { return numbers }
func span(lo, hi int) api.Span   { return api.Span{Lo: lo, Hi: hi} }
func empty() api.Span            { return api.Span{} }
func has(s api.Span, n int) bool { return s.Lo <= n && n <= s.Hi }

// examples is the colony of the chapter's examples, tight is it with the rooms of example 5.
func examples() rat.Colony {
	return rat.Colony{
		Rooms: list(5, 4, 6), Traps: list(2, 3, 1),
		Runs:   []rat.Run{{A: 0, B: 1}, {A: 1, B: 2}},
		Nights: [][]int{{2, 1, 1}, {1, 3, 0}},
	}
}
func tight() rat.Colony {
	c := examples()
	c.Rooms = list(1, 4, 2)
	return c
}

// quiet is a colony of some rooms and runs, without traps and nights.
func quiet(rooms []int, runs ...rat.Run) rat.Colony {
	return rat.Colony{Rooms: rooms, Traps: make([]int, len(rooms)), Runs: runs}
}

// copyOf returns a colony that shares no memory with another one.
func copyOf(c rat.Colony) rat.Colony {
	c.Rooms, c.Traps, c.Runs, c.Nights = slices.Clone(c.Rooms), slices.Clone(c.Traps), slices.Clone(c.Runs), slices.Clone(c.Nights)
	for i := range c.Nights {
		c.Nights[i] = slices.Clone(c.Nights[i])
	}
	return c
}

// luck is a row of numbers that is the same in each run.
type luck struct{ state uint64 }

// below returns a number from 0 to n - 1.
func (l *luck) below(n int) int {
	l.state = l.state*6364136223846793005 + 1442695040888963407
	return int((l.state >> 33) % uint64(n))
}

// from returns a number from lo to hi.
func (l *luck) from(lo, hi int) int { return lo + l.below(hi-lo+1) }

// order returns the numbers below n in any order.
func (l *luck) order(n int) []int {
	var numbers []int
	for i := range n {
		numbers = slices.Insert(numbers, l.below(i+1), i)
	}
	return numbers
}

// size tells how great the colonies of a test are at most.
type size struct{ houses, room, traps, runs, nights int }

// small is the size of colonies of which all truths can be gone through, middle that of those of which all ways can be, large the greatest there is.
func small() size  { return size{houses: 3, room: 3, traps: 2, runs: 3, nights: 2} }
func middle() size { return size{houses: 4, room: 8, traps: 3, runs: 5, nights: 4} }
func large() size {
	return size{houses: rat.MaxHouses, room: rat.MaxRoom, traps: rat.MaxTraps, runs: rat.MaxRuns, nights: rat.MaxNights}
}

// town returns a colony without nights.
func (l *luck) town(z size) rat.Colony {
	var c rat.Colony
	for range max(l.from(1, z.houses), l.from(1, z.houses)) {
		c.Rooms = append(c.Rooms, l.from(0, z.room))
		c.Traps = append(c.Traps, l.from(0, z.traps))
	}
	var pairs []rat.Run
	for a := range c.Rooms {
		for b := range a {
			pairs = append(pairs, []rat.Run{{A: a, B: b}, {A: b, B: a}}[l.below(2)])
		}
	}
	for _, i := range l.order(len(pairs))[:min(l.from(0, z.runs), len(pairs))] {
		c.Runs = append(c.Runs, pairs[i])
	}
	return c
}

// walker is a rat of a story: the houses in which it was in each night.
type walker struct{ way []int }

// story is a colony with all that really happened in it.
type story struct {
	rat.Colony
	truth        rat.Truth
	caught, left []walker
}

// story lets rats live in a town for some nights, and catches those that traps catch.
func (l *luck) story(z size) story {
	s := story{Colony: l.town(z)}
	n := len(s.Rooms)
	for house, room := range s.Rooms {
		for range l.from(0, room) {
			s.left = append(s.left, walker{list(house)})
		}
	}
	for night := range l.from(0, z.nights) {
		if night > 0 {
			l.walk(s.Colony, s.left)
		}
		s.Nights = append(s.Nights, make([]int, n))
		for range n {
			s.truth.Caught = append(s.truth.Caught, make([]int, n))
		}
		var free []walker
		for _, i := range l.order(len(s.left)) {
			w := s.left[i]
			house := w.way[night]
			if s.Nights[night][house] == s.Traps[house] {
				free = append(free, w)
				continue
			}
			s.Nights[night][house]++
			s.truth.Caught[night*n+house][w.way[0]]++
			s.caught = append(s.caught, w)
		}
		s.left = free
	}
	s.truth.Left = make([]int, n)
	for _, w := range s.left {
		s.truth.Left[w.way[0]]++
	}
	return s
}

// walk lets rats stay or go along a run.
func (l *luck) walk(c rat.Colony, rats []walker) {
	for i, w := range rats {
		at := w.way[len(w.way)-1]
		to := list(at)
		for house := range c.Rooms {
			if house != at && joined(c, at, house) {
				to = append(to, house)
			}
		}
		rats[i].way = append(slices.Clone(w.way), to[l.below(len(to))])
	}
}

// colony returns a valid one: that of a story, one with less room, or one in which any number was caught.
func (l *luck) colony(z size) rat.Colony {
	c := l.story(z).Colony
	switch l.below(4) {
	case 0:
		for house, room := range c.Rooms {
			c.Rooms[house] = l.from(0, room)
		}
	case 1:
		for _, night := range c.Nights {
			for house, traps := range c.Traps {
				night[house] = max(l.from(0, traps), l.from(0, traps))
			}
		}
	}
	return c
}

// open returns a colony that does not clash, with some truth.
func (l *luck) open(z size) rat.Colony {
	for {
		if c := l.colony(z); !ask(c).clashes() {
			return c
		}
	}
}

// sizes are all sizes, one for each i.
func sizes(i int) size { return []size{large(), middle(), small()}[i%3] }

// joined reports whether a rat can be in a house one night after another one.
func joined(c rat.Colony, a, b int) bool {
	return a == b || slices.Contains(c.Runs, rat.Run{A: a, B: b}) || slices.Contains(c.Runs, rat.Run{A: b, B: a})
}

// fullOf reports whether a house is full in a night.
func fullOf(c rat.Colony, house, night int) bool { return c.Nights[night][house] == c.Traps[house] }

// goneOf reports whether a rat can have gone a way, by the words of the chapter.
func goneOf(c rat.Colony, way []int) bool {
	for night := 1; night < len(way); night++ {
		if !joined(c, way[night-1], way[night]) || !fullOf(c, way[night-1], night-1) {
			return false
		}
	}
	return true
}

// everyWay goes through all lists of houses of some length.
func everyWay(houses, length int, visit func(way []int)) {
	way := make([]int, length)
	var add func(i int)
	add = func(i int) {
		if i == length {
			visit(way)
			return
		}
		for house := range houses {
			way[i] = house
			add(i + 1)
		}
	}
	add(0)
}

// flags tells of each house whether it is meant.
type flags [rat.MaxHouses]bool

// of returns the houses that are meant.
func (f flags) of() []int {
	var houses []int
	for house, is := range f {
		if is {
			houses = append(houses, house)
		}
	}
	return houses
}

// within reports whether all houses that are meant are in a list.
func (f flags) within(houses []int) bool {
	return !slices.ContainsFunc(f.of(), func(house int) bool { return !slices.Contains(houses, house) })
}

// originsOf returns the houses from which a rat can have come that was caught in a house in a night, going back night by night.
func originsOf(c rat.Colony, house, night int) flags {
	var f flags
	if night == 0 {
		f[house] = true
		return f
	}
	for before := range c.Rooms {
		if joined(c, before, house) && fullOf(c, before, night-1) {
			for from, is := range originsOf(c, before, night-1) {
				f[from] = f[from] || is
			}
		}
	}
	return f
}

// leavers are the houses from which a rat can have come that is left in a house.
func leavers(c rat.Colony, house int) flags {
	var f flags
	if last := len(c.Nights) - 1; last < 0 {
		f[house] = true
	} else if fullOf(c, house, last) {
		f = originsOf(c, house, last)
	}
	return f
}

// crowd is rats that can have come from the same houses.
type crowd struct {
	rats int
	from flags
}

// words is a colony of which all is asked by the words of the chapter: what was caught for each night and house, the houses from which a rat can have come that is left in each house, or in any, or is there in the next night.
type words struct {
	rat.Colony
	crowds     []crowd
	here, next []flags
	any        flags
	caught     int
}

// ask makes words of a colony.
func ask(c rat.Colony) words {
	w := words{Colony: c, here: make([]flags, len(c.Rooms)), next: make([]flags, len(c.Rooms))}
	for night, caught := range c.Nights {
		for house, rats := range caught {
			w.crowds = append(w.crowds, crowd{rats, originsOf(c, house, night)})
			w.caught += rats
		}
	}
	for house := range c.Rooms {
		w.here[house] = leavers(c, house)
		for from, is := range w.here[house] {
			for near := range c.Rooms {
				w.next[near][from] = w.next[near][from] || is && joined(c, house, near)
			}
			w.any[from] = w.any[from] || is
		}
	}
	return w
}

// come returns how many rats of some crowds can have come from houses with such rooms: of all lists of houses, the least sum of their rooms and of the rats that can have come from another one.
func come(rooms []int, crowds []crowd) int {
	least := -1
	for _, houses := range lists(len(rooms)) {
		n := 0
		for _, house := range houses {
			n += rooms[house]
		}
		for _, x := range crowds {
			if !x.from.within(houses) {
				n += x.rats
			}
		}
		if least < 0 || n < least {
			least = n
		}
	}
	return least
}

// clashes reports whether the rats that were caught cannot have come from the rooms.
func (w words) clashes() bool { return come(w.Rooms, w.crowds) < w.caught }

// most returns how many rats that come from some houses can be left.
func (w words) most(from flags) int {
	return come(w.Rooms, append(slices.Clone(w.crowds), crowd{1000, from})) - w.caught
}

// after returns for each house how many rats can be there, by the houses from which these can have come.
func (w words) after(from []flags) []int {
	var after []int
	for _, f := range from {
		after = append(after, w.most(f))
	}
	return after
}

// shortOf returns by how many houses are short, if more than 0.
func (w words) shortOf(houses []int) int {
	n := 0
	for _, x := range w.crowds {
		if x.from.within(houses) {
			n += x.rats
		}
	}
	for _, house := range houses {
		n -= w.Rooms[house]
	}
	return n
}

// lists returns all increasing lists of so many houses, the shorter ones first, and of those that are as long in lexicographic order.
func lists(houses int) [][]int {
	all := [][]int{nil}
	for i := 0; i < len(all); i++ {
		first := 0
		if n := len(all[i]); n > 0 {
			first = all[i][n-1] + 1
		}
		for house := first; house < houses; house++ {
			all = append(all, slices.Concat(all[i], list(house)))
		}
	}
	return all
}

// everyTruth goes through all truths of a colony: the rats of each crowd in all ways, and then all that can be left.
func (w words) everyTruth(visit func(t rat.Truth)) {
	t := rat.Truth{Left: make([]int, len(w.Rooms))}
	rooms := slices.Clone(w.Rooms)
	for range w.crowds {
		t.Caught = append(t.Caught, make([]int, len(w.Rooms)))
	}
	var leave func(house int)
	leave = func(house int) {
		if house == len(rooms) {
			visit(t)
			return
		}
		most := 0
		if w.any[house] {
			most = rooms[house]
		}
		for n := range most + 1 {
			t.Left[house] = n
			leave(house + 1)
		}
		t.Left[house] = 0
	}
	var next func(crowd int)
	var share func(crowd, house, rats int)
	next = func(crowd int) {
		if crowd == len(w.crowds) {
			leave(0)
			return
		}
		share(crowd, 0, w.crowds[crowd].rats)
	}
	share = func(crowd, house, rats int) {
		if house == len(rooms) {
			if rats == 0 {
				next(crowd + 1)
			}
			return
		}
		most := 0
		if w.crowds[crowd].from[house] {
			most = min(rats, rooms[house])
		}
		for n := range most + 1 {
			t.Caught[crowd][house] = n
			rooms[house] -= n
			share(crowd, house+1, rats-n)
			rooms[house] += n
		}
		t.Caught[crowd][house] = 0
	}
	next(0)
}

// ratsOf returns how many rats have come from each house, and from all together.
func ratsOf(t rat.Truth) (from []int, all int) {
	from = make([]int, len(t.Left))
	for _, l := range append(slices.Clone(t.Caught), t.Left) {
		for house, n := range l {
			from[house] += n
			all += n
		}
	}
	return from, all
}

// isTruth reports whether something of the right size is a truth.
func (w words) isTruth(t rat.Truth) bool {
	for i, l := range append(slices.Clone(t.Caught), t.Left) {
		from, rats := w.any, 0
		if i < len(t.Caught) {
			from = w.crowds[i].from
		}
		for house, n := range l {
			if n < 0 || n > 60 || n > 0 && !from[house] {
				return false
			}
			rats += n
		}
		if i < len(t.Caught) && rats != w.crowds[i].rats {
			return false
		}
	}
	from, _ := ratsOf(t)
	for house, n := range from {
		if n > w.Rooms[house] {
			return false
		}
	}
	return true
}

// steps returns how many runs one needs from each house to each other one; 99 if none lead there.
func steps(c rat.Colony) [][]int {
	far := make([][]int, len(c.Rooms))
	for a := range far {
		far[a] = slices.Repeat(list(99), len(c.Rooms))
		for b := range far[a] {
			if a == b {
				far[a][b] = 0
			} else if joined(c, a, b) {
				far[a][b] = 1
			}
		}
	}
	for via := range far {
		for a := range far {
			for b := range far {
				far[a][b] = min(far[a][b], far[a][via]+far[via][b])
			}
		}
	}
	return far
}

// count is 1 for what is so.
func count(is bool) int {
	if is {
		return 1
	}
	return 0
}

// noError fails a test if a call that has no reason for it returns an error.
func noError(t *testing.T, errors ...api.Errno) {
	t.Helper()
	for _, e := range errors {
		if e != api.OK {
			t.Fatal("error", e)
		}
	}
}
