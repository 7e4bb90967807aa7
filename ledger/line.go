package ledger

import (
	"iter"
	"slices"
)

// spot is where a line stands: on which page, and which of its lines it is.
type spot struct{ page, line int }

// isTorn and isWhole report whether a line is torn, or not.
func (l Line) isTorn() bool  { return len(l) == 0 }
func (l Line) isWhole() bool { return len(l) > 0 }

// copied returns a line that shares no memory with another one.
func (l Line) copied() Line { return slices.Clone(l) }

// entry returns the figures of a line without its total.
func (l Line) entry() []int { return slices.Clone(l[:len(l)-1]) }

// rowOf returns the row of an entry.
func rowOf(entry []int) Line { return append(slices.Clone(entry), sum(entry...)) }

// agreeing returns the figure in a column with which the sum across a line agrees.
func (l Line) agreeing(column int) int {
	total := len(l) - 1
	others := sum(l[:total]...)
	if column == total {
		return others
	}
	return l[total] - (others - l[column])
}

// agrees reports whether the sum across a line does.
func (l Line) agrees() bool {
	total := len(l) - 1
	return l[total] == l.agreeing(total)
}

// less returns the figures of a line, less those of another one.
func (l Line) less(other Line) Line {
	rest := l.copied()
	for column, figure := range other {
		rest[column] -= figure
	}
	return rest
}

// added returns the figures of several lines, added. A torn one adds nothing.
func (k Kind) added(lines ...Line) Line {
	together := make(Line, k.width())
	for _, l := range lines {
		for column, figure := range l {
			together[column] += figure
		}
	}
	return together
}

// lines yields the lines of a page, with their numbers.
func (p Page) lines() iter.Seq2[int, Line] {
	return func(yield func(number int, l Line) bool) {
		for number, row := range p.Rows {
			if !yield(number, row) {
				return
			}
		}
		if yield(SumLine, p.Sum) {
			yield(CarriedLine, p.Carried)
		}
	}
}

// line returns where the line of a page with a number is kept.
func (p *Page) line(number int) *Line {
	switch number {
	case SumLine:
		return &p.Sum
	case CarriedLine:
		return &p.Carried
	}
	return &p.Rows[number]
}

// differences counts the figures in which two lists of as many differ.
func differences(a, b []int) int {
	apart := 0
	for i := range a {
		if a[i] != b[i] {
			apart++
		}
	}
	return apart
}
