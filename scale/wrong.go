package scale

import "slices"

// limited is a book at work in which each drift has at most so many changes.
type limited struct {
	work
	most int
}

// right reports whether some proofs of a bridge, the earliest one first, can all be right.
func (l limited) right(line []int) bool {
	return all(line, l.possible) && l.changes(line) <= l.most
}

// torn returns proofs of a bridge that cannot all be right, in the order of their indices, if those of the whole line cannot.
func torn(line []int, right func([]int) bool) []int {
	left := line
	for _, proof := range slices.Sorted(slices.Values(line)) {
		if fewer := without(left, proof); !right(fewer) {
			left = fewer
		}
	}
	return slices.Sorted(slices.Values(left))
}

// wrong returns the fewest proofs of a line, in the order of their indices, without which the others can all be right.
func wrong(line []int, right func([]int) bool) []int {
	proofs := slices.Sorted(slices.Values(line))
	// Without any proof nothing is wrong.
	best := proofs
	for set := range 1 << len(proofs) {
		out := members(proofs, set)
		if shorter(out, best) && right(without(line, out...)) {
			best = out
		}
	}
	return best
}

// without returns a copy of a list that has not some of its numbers.
func without(list []int, out ...int) []int {
	return slices.DeleteFunc(slices.Clone(list), func(n int) bool { return slices.Contains(out, n) })
}

// members returns the elements of a list whose bits a set has.
func members(list []int, set int) []int {
	var some []int
	for i, n := range list {
		if set>>i&1 == 1 {
			some = append(some, n)
		}
	}
	return some
}

// shorter reports whether a list is shorter than another one, or as short and before it.
func shorter(list, than []int) bool {
	if len(list) != len(than) {
		return len(list) < len(than)
	}
	return slices.Compare(list, than) < 0
}
