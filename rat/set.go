package rat

import (
	"cmp"
	"iter"
	"slices"
)

// set is one of houses, a bit for each.
type set uint

// setOf returns the set of some houses.
func setOf(houses ...int) set {
	s := set(0)
	for _, house := range houses {
		s |= 1 << house
	}
	return s
}

// has reports whether a house is in a set.
func (s set) has(house int) bool { return s>>house&1 == 1 }

// isIn reports whether all houses of a set are in another one.
func (s set) isIn(other set) bool { return s&^other == 0 }

// houses yields the houses of a set, in increasing order.
func (s set) houses() iter.Seq[int] {
	return func(yield func(int) bool) {
		for house := range MaxHouses {
			if s.has(house) && !yield(house) {
				return
			}
		}
	}
}

// list returns the houses of a set, in increasing order.
func (s set) list() []int { return slices.Collect(s.houses()) }

// choice tells which sets of houses will do, and which of two lists of houses is better.
type choice struct {
	is     func(s set) bool
	better func(list, than []int) bool
}

// best returns the best list of some of all houses that will do, and whether there is one.
func (c choice) best(everywhere set) (list []int, found bool) {
	for s := range everywhere + 1 {
		if !c.is(s) {
			continue
		}
		if houses := s.list(); !found || c.better(houses, list) {
			list, found = houses, true
		}
	}
	return list, found
}

// fewer reports whether a list is shorter than another one, or as long and before it.
func fewer(list, than []int) bool {
	return cmp.Or(len(list)-len(than), slices.Compare(list, than)) < 0
}

// more reports whether a list is longer than another one, or as long and before it.
func more(list, than []int) bool {
	return cmp.Or(len(than)-len(list), slices.Compare(list, than)) < 0
}
