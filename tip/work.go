package tip

// levels are those of the strips of a tip; 0 for strips that it does not have.
type levels [MaxStrips]int

// place is a strip on a day.
type place struct{ strip, day int }

// work is a tip at work: the greatest percents that can be left by age, the lines of its strips, and the greatest levels that these can have on each day, with all layers that were laid since, too.
type work struct {
	Tip
	most  []int
	lines levels
	tops  [MaxDay + 1]levels
}

// begin puts a tip to work.
func begin(t Tip) work {
	w := work{Tip: t, most: high().each(left(t.Settles))}
	for strip, s := range w.Strips {
		w.lines[strip] = s.Line
		for day := range w.tops {
			w.tops[day][strip] = s.Base
		}
	}
	for _, l := range w.Layers {
		w = w.raised(l)
	}
	return w
}

// raised returns the tip at work when one layer more is laid on it.
func (w work) raised(l Layer) work {
	for age := range MaxDay - l.Day + 1 {
		w.tops[l.Day+age][l.Strip] += w.thickness(l, age, w.most)
	}
	return w
}

// upTo returns the levels, but none that is greater than another one of the same strip.
func (l levels) upTo(others levels) levels {
	for strip, other := range others {
		l[strip] = least(l[strip], other)
	}
	return l
}

// keeps reports whether no level is over the line of its strip.
func (w work) keeps(l levels) bool { return l == l.upTo(w.lines) }

// kept reports whether all lines are kept.
func (w work) kept() bool { return all(w.tops[:], w.keeps) }

// over returns the first day on which some strip can be over its line, and the first such strip on this day.
func (w work) over() (first place, found bool) {
search:
	for day, tops := range w.tops {
		for strip, top := range tops {
			if top > w.lines[strip] {
				first, found = place{strip: strip, day: day}, true
				break search
			}
		}
	}
	return first, found
}

// highest returns the greatest level that a strip can have from a day on.
func (w work) highest(strip, from int) int {
	highest := 0
	for _, tops := range w.tops[from:] {
		highest = max(highest, tops[strip])
	}
	return highest
}
