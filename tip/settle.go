package tip

import (
	"slices"

	"laystall/api"
)

// end tells which one of a span counts.
type end struct{ of func(api.Span) int }

// low is the end at which there is least of everything.
func low() end { return end{of: func(s api.Span) int { return s.Lo }} }

// high is the end at which there is most of everything.
func high() end { return end{of: func(s api.Span) int { return s.Hi }} }

// each returns the numbers of several spans that count.
func (e end) each(spans []api.Span) []int {
	numbers := make([]int, len(spans))
	for i, s := range spans {
		numbers[i] = e.of(s)
	}
	return numbers
}

// left returns the least and the greatest number that any settling has, for each age that has a span. One of these spans is empty if there is no settling.
func left(settles []api.Span) []api.Span {
	spans := make([]api.Span, len(settles))
	for age := range len(settles) {
		// What is left never gets more: no number is greater than one before it, or less than one behind it.
		spans[age] = api.Span{Lo: slices.Max(low().each(settles[age:])), Hi: least(high().each(settles[:age+1])...)}
	}
	return spans
}

// isSettling reports whether a list is a settling.
func (t Tip) isSettling(percents []int) bool {
	if len(percents) != len(t.Settles) {
		return false
	}
	for age, s := range t.Settles {
		if !within(percents[age], s.Lo, s.Hi) || percents[age] > percents[max(age-1, 0)] {
			return false
		}
	}
	return true
}

// settlesBy reports whether a list is one that tells how a layer settles: a settling for waste, an empty one for a cover.
func (t Tip) settlesBy(l Layer, percents []int) bool {
	if l.Cover {
		return len(percents) == 0
	}
	return t.isSettling(percents)
}

// settlings returns those of all layers in which as much is left of each waste, at each age, as an end of what can be.
func (t Tip) settlings(e end) [][]int {
	spans, lists := left(t.Settles), make([][]int, len(t.Layers))
	for i, l := range t.Layers {
		if !l.Cover {
			lists[i] = e.each(spans)
		}
	}
	return lists
}
