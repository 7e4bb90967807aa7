package round

import "slices"

// skills tells which sets of bins each cart can empty.
func skills(shifts []*shift) []func(set) bool {
	var can []func(set) bool
	for _, s := range shifts {
		can = append(can, s.empties)
	}
	return can
}

// deal gives each cart bins that it can empty, so that as few as can be get any, and returns how many do; None if the carts cannot empty all bins.
func deal(bins set, can []func(set) bool) (parts []set, used int) {
	used = None
	now := make([]set, len(can))
	var give func(cart, count int, left set)
	give = func(cart, count int, left set) {
		if cart == len(can) {
			if left == 0 && (used == None || count < used) {
				parts, used = slices.Clone(now), count
			}
			return
		}
		for part := range left.parts() {
			now[cart] = part
			if part == 0 {
				give(cart+1, count, left)
			} else if can[cart](part) {
				give(cart+1, count+1, left&^part)
			}
		}
	}
	give(0, 0, bins)
	return parts, used
}

// deals reports whether each of some bins, which are all different ones, is in one round of a list, once, and no other bin is in any.
func deals(plan [][]int, bins []int) bool {
	dealt := slices.Concat(plan...)
	// As many bins as there are, of which none is left in the end: each one has been taken once.
	return len(dealt) == len(bins) &&
		all(dealt, below(MaxBins)) &&
		setOf(bins).after(dealt, set.without) == 0
}

// most returns the greatest sum of the weights of some bins that a cart can empty together.
func most(bins set, weights []int, can func(set) bool) int {
	best := 0
	for part := range bins.parts() {
		if can(part) {
			best = max(best, sum(of(weights, part.bins())...))
		}
	}
	return best
}
