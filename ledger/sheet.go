package ledger

import "slices"

// sheet returns the sheet of entries.
func (k Kind) sheet(entries [][]int) Sheet {
	s := Sheet{Kind: k}
	var before Line
	for chunk := range slices.Chunk(entries, PageRows) {
		p := Page{Rows: each(chunk, rowOf)}
		p.Sum = k.added(p.Rows...)
		p.Carried = k.added(p.Sum, before)
		before = p.Carried
		s.Pages = append(s.Pages, p)
	}
	return s
}

// line returns the line at a spot.
func (s Sheet) line(at spot) Line { return *s.Pages[at.page].line(at.line) }

// lines returns all lines of a sheet, page by page.
func (s Sheet) lines() []Line {
	var lines []Line
	for _, p := range s.Pages {
		for _, l := range p.lines() {
			lines = append(lines, l)
		}
	}
	return lines
}

// rows returns all rows of a sheet.
func (s Sheet) rows() []Line {
	var rows []Line
	for _, p := range s.Pages {
		rows = append(rows, p.Rows...)
	}
	return rows
}

// entries returns the rows of a sheet without their totals.
func (s Sheet) entries() [][]int { return each(s.rows(), Line.entry) }

// copied returns a sheet that shares no memory with another one.
func (s Sheet) copied() Sheet {
	return Sheet{Kind: s.Kind, Pages: each(s.Pages, Page.copied)}
}

// copied returns a page that shares no memory with another one.
func (p Page) copied() Page {
	return Page{Rows: each(p.Rows, Line.copied), Sum: p.Sum.copied(), Carried: p.Carried.copied()}
}

// with returns a sheet with another line at a spot.
func (s Sheet) with(at spot, l Line) Sheet {
	other := s.copied()
	*other.Pages[at.page].line(at.line) = l
	return other
}

// mended returns a sheet with a figure put at a place.
func (s Sheet) mended(m Mending) Sheet {
	at := spot{page: m.At.Page, line: m.At.Line}
	l := s.line(at).copied()
	l[m.At.Column] = m.Figure
	return s.with(at, l)
}

// wrongAcross returns the places of the totals across which a sum disagrees.
func (s Sheet) wrongAcross() []Place {
	var places []Place
	for page, p := range s.Pages {
		for number, l := range p.lines() {
			if l.isWhole() && !l.agrees() {
				places = append(places, Place{Page: page, Line: number, Column: len(l) - 1})
			}
		}
	}
	return places
}

// mending returns the one way to mend a sheet that is not right, if there is one.
func (s Sheet) mending() (Mending, bool) {
	// Each figure is in a sum across, so that none of a line that agrees has to be another one.
	for _, total := range s.wrongAcross() {
		l := s.line(spot{page: total.Page, line: total.Line})
		for column := range l {
			m := Mending{At: Place{Page: total.Page, Line: total.Line, Column: column}, Figure: l.agreeing(column)}
			if begin(s.mended(m)).isRight() {
				return m, true
			}
		}
	}
	return Mending{}, false
}
