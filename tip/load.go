package tip

import (
	"slices"
	"sort"
)

// room returns the greatest number of pounds that can be laid on a strip on a day.
func (w work) room(strip, day int) int {
	return sort.Search(MaxPounds, func(pounds int) bool {
		more := Load{Day: day, Pounds: pounds + 1}
		return w.raised(more.on(strip)).highest(strip, day) > w.lines[strip]
	})
}

// on returns the layer that a load is if it is laid on a strip.
func (l Load) on(strip int) Layer { return Layer{Strip: strip, Day: l.Day, Pounds: l.Pounds} }

// fill returns the first strips on which as many of the first loads as can be are laid, so that all lines are kept.
func (w work) fill(loads []Load) []int {
	var best []int
	var lay func(laid work, strips []int) bool
	lay = func(laid work, strips []int) bool {
		if len(strips) > len(best) {
			best = strips
		}
		if len(strips) == len(loads) {
			return true
		}
		for strip := range laid.Strips {
			next := laid.raised(loads[len(strips)].on(strip))
			if next.kept() && lay(next, slices.Concat(strips, []int{strip})) {
				return true
			}
		}
		return false
	}
	lay(w, nil)
	return best
}
