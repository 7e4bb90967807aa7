package rat

import "slices"

// spot is a house in a night.
type spot struct{ house, night int }

// trip is from a house in the first night to a spot.
type trip struct {
	from int
	to   spot
}

// work is a colony at work: for each trip that a rat can have made, a way.
type work struct {
	Colony
	ways map[trip][]int
}

// begin puts a colony to work.
func begin(c Colony) work {
	w := work{Colony: c, ways: map[trip][]int{}}
	for night := range len(c.Nights) {
		for from := range c.Rooms {
			w.find(from, night)
		}
	}
	return w
}

// find finds ways from a house to those of a night, by the ways to those of the night before.
func (w work) find(from, night int) {
	if night == 0 {
		w.ways[trip{from: from, to: spot{house: from}}] = []int{from}
		return
	}
	for house := range w.Rooms {
		before := spot{house: house, night: night - 1}
		way, found := w.ways[trip{from: from, to: before}]
		if !found || !w.full(before) {
			continue
		}
		for next := range w.near(setOf(house)).houses() {
			w.ways[trip{from: from, to: spot{house: next, night: night}}] = append(slices.Clone(way), next)
		}
	}
}

// everywhere is the set of all houses.
func (c Colony) everywhere() set { return 1<<len(c.Rooms) - 1 }

// full reports whether a house is full in a night.
func (c Colony) full(s spot) bool { return c.Nights[s.night][s.house] == c.Traps[s.house] }

// near returns the houses in which rats of some houses can be one night later.
func (c Colony) near(houses set) set {
	near := houses
	for _, r := range c.Runs {
		if houses.has(r.A) {
			near |= setOf(r.B)
		}
		if houses.has(r.B) {
			near |= setOf(r.A)
		}
	}
	return near
}

// goes reports whether a rat can have gone a way.
func (c Colony) goes(way []int) bool {
	var passed []spot
	for night, house := range way[1:] {
		if !c.near(setOf(way[night])).has(house) {
			return false
		}
		passed = append(passed, spot{house: way[night], night: night})
	}
	return all(passed, c.full)
}

// origins returns the houses from which a rat can have come that was caught at a spot.
func (w work) origins(s spot) set {
	origins := set(0)
	for from := range w.Rooms {
		if _, found := w.ways[trip{from: from, to: s}]; found {
			origins |= setOf(from)
		}
	}
	return origins
}

// leftIn returns the houses from which rats can have come that are left in some houses.
func (w work) leftIn(houses set) set {
	if len(w.Nights) == 0 {
		return houses
	}
	origins := set(0)
	for house := range houses.houses() {
		if last := (spot{house: house, night: len(w.Nights) - 1}); w.full(last) {
			origins |= w.origins(last)
		}
	}
	return origins
}
