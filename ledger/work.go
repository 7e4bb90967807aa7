package ledger

import "slices"

// tally is a sum of lines, column by column: the figures of one of them are those of others, added.
type tally struct {
	check Check
	whole spot
	parts []spot
}

// work is a sheet at work, with its sums down and on.
type work struct {
	Sheet
	tallies []tally
}

// begin puts a sheet to work.
func begin(s Sheet) work {
	w := work{Sheet: s}
	for page, p := range s.Pages {
		down := tally{check: Down, whole: spot{page, SumLine}}
		for row := range p.Rows {
			down.parts = append(down.parts, spot{page, row})
		}
		on := tally{check: On, whole: spot{page, CarriedLine}, parts: []spot{{page, SumLine}}}
		if page > 0 {
			on.parts = append(on.parts, spot{page - 1, CarriedLine})
		}
		w.tallies = append(w.tallies, down, on)
	}
	return w
}

// torn returns the lines of a sum that are torn.
func (w work) torn(t tally) []spot {
	return those(slices.Concat([]spot{t.whole}, t.parts), func(at spot) bool { return w.line(at).isTorn() })
}

// parts returns the parts of a sum, added.
func (w work) parts(t tally) Line { return w.Kind.added(each(t.parts, w.line)...) }

// wrong returns the places of the figures down or on to which a sum disagrees.
func (w work) wrong(c Check) []Place {
	var places []Place
	for _, t := range w.tallies {
		if t.check != c || len(w.torn(t)) > 0 {
			continue
		}
		want := w.parts(t)
		for column, figure := range w.line(t.whole) {
			if figure != want[column] {
				places = append(places, Place{Page: t.whole.page, Line: t.whole.line, Column: column})
			}
		}
	}
	return places
}

// isRight reports whether a sheet is. Then its figures are sums of entries, so that none is less than 0 or too great.
func (w work) isRight() bool {
	return all(w.lines(), Line.isWhole) && all(w.entries(), areEntries) &&
		len(slices.Concat(w.wrongAcross(), w.wrong(Down), w.wrong(On))) == 0
}

// tellAll tells torn lines, one after the other, as long as some line is told. It changes the sheet.
func (w work) tellAll() {
	for told := true; told; {
		told = false
		for _, t := range w.tallies {
			if torn := w.torn(t); len(torn) == 1 {
				*w.Pages[torn[0].page].line(torn[0].line) = w.told(t)
				told = true
			}
		}
	}
}

// told returns the figures of the only line of a sum that is torn.
func (w work) told(t tally) Line {
	whole := w.line(t.whole)
	if whole.isTorn() {
		return w.parts(t)
	}
	return whole.less(w.parts(t))
}
