package lot

import (
	"iter"
	"slices"
)

// mix is a number of sacks of each picking: those of a lot, or those that are left. It is 0 for pickings that a store does not have.
type mix [MaxPickings]int

// mixOf returns the sacks of a lot without errors.
func mixOf(lot []int) mix {
	var m mix
	copy(m[:], lot)
	return m
}

// list returns the numbers of so many pickings.
func (m mix) list(pickings int) []int { return slices.Clone(m[:pickings]) }

// size returns how many sacks there are.
func (m mix) size() int { return sum(m[:]...) }

// without returns what is left when the sacks of a lot are taken away.
func (m mix) without(lot mix) mix {
	for i, n := range lot {
		m[i] -= n
	}
	return m
}

// isPart reports whether there are no more sacks of any picking than in another mix.
func (m mix) isPart(of mix) bool {
	for i, n := range m {
		if n > of[i] {
			return false
		}
	}
	return true
}

// cost returns that of all sacks, each at the price of its picking.
func (m mix) cost(prices []int) int {
	parts := make([]int, len(prices))
	for i, price := range prices {
		parts[i] = m[i] * price
	}
	return sum(parts...)
}

// lots yields all lots that can be mixed from these sacks, in lexicographic order.
func (m mix) lots() iter.Seq[mix] {
	return func(yield func(mix) bool) {
		var lot mix
		for yield(lot) {
			last := len(m) - 1
			for last >= 0 && lot[last] == m[last] {
				lot[last] = 0
				last--
			}
			if last < 0 {
				return
			}
			lot[last]++
		}
	}
}

// together returns all sacks of several lots.
func together(lots ...mix) mix {
	var all mix
	for _, l := range lots {
		for i, n := range l {
			all[i] += n
		}
	}
	return all
}

// sum returns that of several numbers.
func sum(numbers ...int) int {
	all := 0
	for _, n := range numbers {
		all += n
	}
	return all
}
