package street

import (
	"slices"

	"laystall/api"
)

// state is where a cart is on a tour, and which of the tour's streets are done, a bit for each.
type state struct {
	corner int
	done   uint
}

// arrival is when a state is come to first, by which leg, and from which state.
type arrival struct {
	minute int
	leg    Leg
	before state
}

// drive returns a drive through streets that ends at a corner as early as any, and the minute at which it ends.
func (j job) drive(from, at int, streets []int, to int) ([]Leg, int, api.Errno) {
	found := j.explore(from, at, streets)
	goal := state{corner: to, done: 1<<len(streets) - 1}
	end, ok := found[goal]
	if !ok {
		return nil, 0, api.ErrNone
	}
	return trace(found, state{corner: from}, goal), end.minute, api.OK
}

// explore returns all states that the cart can come to, minute by minute, so that each is come to as early as can be.
func (j job) explore(from, at int, streets []int) map[state]arrival {
	start := state{corner: from}
	found := map[state]arrival{start: {minute: at}}
	var due [MaxDay + 1][]state
	due[at] = []state{start}
	for minute := range due {
		for _, here := range due[minute] {
			// A state that was bettered since is due at an earlier minute, too.
			if found[here].minute < minute {
				continue
			}
			for leg := range j.legs(here.corner, j.may) {
				then := j.arrive(leg, minute)
				_, far := j.ends(leg)
				next := state{corner: far, done: here.done | bit(streets, leg.Street)}
				if old, ok := found[next]; then == None || ok && old.minute <= then {
					continue
				}
				found[next] = arrival{minute: then, leg: leg, before: here}
				due[then] = append(due[then], next)
			}
		}
	}
	return found
}

// trace returns the legs that lead from the state start to the state goal.
func trace(found map[state]arrival, start, goal state) []Leg {
	var lead func(s state) []Leg
	lead = func(s state) []Leg {
		if s == start {
			return nil
		}
		last := found[s]
		legs := lead(last.before)
		return append(legs, last.leg)
	}
	return lead(goal)
}

// bit returns the bit of a street of a tour, 0 for other streets.
func bit(streets []int, street int) uint {
	i := slices.Index(streets, street)
	if i < 0 {
		return 0
	}
	return 1 << i
}

// lacks reports whether one of some streets is that of no leg.
func lacks(legs []Leg, streets []int) bool {
	lacking := false
search:
	for _, street := range streets {
		for _, leg := range legs {
			if leg.Street == street {
				continue search
			}
		}
		lacking = true
		break search
	}
	return lacking
}

// streetsOf returns the street of each leg.
func streetsOf(legs []Leg) []int {
	streets := make([]int, len(legs))
	for i, leg := range legs {
		streets[i] = leg.Street
	}
	return streets
}
