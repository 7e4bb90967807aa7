package round

import "iter"

// set is one of bins, a bit for each.
type set uint

// setOf returns the set of some bins.
func setOf(bins []int) set { return set(0).after(bins, set.with) }

// with returns a set with one bin more.
func (s set) with(bin int) set { return s | 1<<bin }

// without returns a set with one bin less.
func (s set) without(bin int) set { return s &^ (1 << bin) }

// after returns a set that is changed by some bins, one after the other.
func (s set) after(bins []int, change func(s set, bin int) set) set {
	for _, bin := range bins {
		s = change(s, bin)
	}
	return s
}

// bins returns the bins of a set, in increasing order.
func (s set) bins() []int {
	var list []int
	for bin := range MaxBins {
		if s>>bin&1 == 1 {
			list = append(list, bin)
		}
	}
	return list
}

// parts yields all sets of bins of a set, the least number first: each one comes behind those of its own bins.
func (s set) parts() iter.Seq[set] {
	return func(yield func(set) bool) {
		part := set(0)
		for yield(part) && part != s {
			part = (part - s) & s
		}
	}
}
