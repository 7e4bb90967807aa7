package lot

import (
	"slices"

	"laystall/api"
)

// work is a store at work: what the lots bring that were asked for.
type work struct {
	Store
	brought map[mix]int
}

// begin puts a store to work.
func begin(s Store) work { return work{Store: s, brought: map[mix]int{}} }

// stock returns all sacks of the store.
func (w work) stock() mix {
	var all mix
	for i, p := range w.Pickings {
		all[i] = p.Sacks
	}
	return all
}

// foul returns how many foul sacks a lot has, at an end of what it can have.
func (w work) foul(lot mix, e end) int {
	var parts mix
	for i, p := range w.Pickings {
		parts[i] = e.of(p.inside(lot[i]))
	}
	return parts.size()
}

// span returns how many foul sacks a lot can have.
func (w work) span(lot mix) api.Span {
	return api.Span{Lo: w.foul(lot, least()), Hi: w.foul(lot, greatest())}
}

// claim is what can surely be said of a lot: its size, and how many of its sacks are foul at most.
type claim struct{ size, foul int }

// claim returns that of a lot.
func (w work) claim(lot mix) claim { return claim{size: lot.size(), foul: w.foul(lot, greatest())} }

// has reports whether a lot of which this can be said surely has a grade.
func (c claim) has(g Grade) bool { return c.size > 0 && 100*c.foul <= g.Foul*c.size }

// grade returns the first grade that a lot surely has; if there is none, one without a price.
func (w work) grade(lot mix) Grade {
	if i := slices.IndexFunc(w.Grades, w.claim(lot).has); i >= 0 {
		return w.Grades[i]
	}
	return Grade{}
}

// brings returns what a lot brings.
func (w work) brings(lot mix) int {
	n, known := w.brought[lot]
	if !known {
		n = lot.size() * w.grade(lot).Price
		w.brought[lot] = n
	}
	return n
}

// most returns the first lot of the greatest size that surely has a grade; the empty one if there is none.
func (w work) most(g Grade) mix {
	var best mix
	for l := range w.stock().lots() {
		if w.claim(l).has(g) && l.size() > best.size() {
			best = l
		}
	}
	return best
}

// spare returns the greatest number of sacks of a picking with which a lot surely has a grade; None if there is none.
func (w work) spare(lot mix, g Grade, picking int) int {
	spare, room := None, w.stock().without(lot)
	for more := range room[picking] + 1 {
		if w.claim(lot).has(g) {
			spare = more
		}
		lot[picking]++
	}
	return spare
}
