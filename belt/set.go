package belt

import (
	"iter"
	"slices"
)

// set is one of materials, a bit for each.
type set uint

// everything is the set of all materials: the greatest number of a set.
const everything set = 1<<Kinds - 1

// setOf returns the set of some materials.
func setOf(materials []Material) set {
	s := set(0)
	for _, m := range materials {
		s |= 1 << m
	}
	return s
}

// takes returns the set of the materials that a hand takes.
func (h Hand) takes() set {
	s := set(0)
	for m, is := range h.Takes {
		if is {
			s |= 1 << m
		}
	}
	return s
}

// materials yields the materials of a set, in increasing order.
func (s set) materials() iter.Seq[Material] {
	return func(yield func(Material) bool) {
		for m := range Material(Kinds) {
			if s>>m&1 == 1 && !yield(m) {
				return
			}
		}
	}
}

// list returns the materials of a set, in increasing order.
func (s set) list() []Material { return slices.Collect(s.materials()) }
