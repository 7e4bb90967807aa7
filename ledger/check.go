package ledger

import "laystall/api"

// askBook returns the errors of a book.
func askBook(s Sheet) api.Errno {
	if e := Form(s); e != api.OK {
		return e
	}
	switch {
	case !all(s.lines(), Line.isWhole):
		return api.ErrState
	case !begin(s).isRight():
		return api.ErrWrong
	}
	return api.OK
}

// hasPages reports whether the numbers of pages, and of rows on each of them, are allowed.
func (s Sheet) hasPages() bool {
	for i, p := range s.Pages {
		least := PageRows
		if i == len(s.Pages)-1 {
			least = 1
		}
		if i == MaxPages || !within(len(p.Rows), least, PageRows) {
			return false
		}
	}
	return true
}

// hasLine reports whether there is such a page, and such a line on it.
func (s Sheet) hasLine(at spot) bool {
	if !within(at.page, 0, len(s.Pages)-1) {
		return false
	}
	return at.line == SumLine || at.line == CarriedLine || within(at.line, 0, len(s.Pages[at.page].Rows)-1)
}

// fits reports whether a line is torn, or has as many figures as those of a kind.
func (k Kind) fits(l Line) bool { return l.isTorn() || len(l) == k.width() }

// hasColumns reports whether an entry has a number for each column of a kind.
func (k Kind) hasColumns(entry []int) bool { return len(entry) == len(kindColumns[k]) }

// isFigure reports whether a number can be a figure.
func isFigure(n int) bool { return within(n, 0, MaxFigure) }

// areFigures reports whether all numbers of a line can be figures.
func areFigures(l Line) bool { return all(l, isFigure) }

// areEntries reports whether no number of an entry is too great, or less than 0.
func areEntries(entry []int) bool {
	return all(entry, func(n int) bool { return within(n, 0, MaxEntry) })
}

// all reports whether each element of a list is as asked.
func all[T any](list []T, is func(T) bool) bool {
	for _, x := range list {
		if !is(x) {
			return false
		}
	}
	return true
}

// those returns the elements of a list that are as asked.
func those[T any](list []T, is func(T) bool) []T {
	var chosen []T
	for _, x := range list {
		if is(x) {
			chosen = append(chosen, x)
		}
	}
	return chosen
}

// each makes a list of what comes of each element of another one.
func each[T, U any](list []T, of func(T) U) []U {
	var made []U
	for _, x := range list {
		made = append(made, of(x))
	}
	return made
}

// within reports whether a number is from lo to hi.
func within(n, lo, hi int) bool { return n >= lo && n <= hi }

// sum adds several numbers.
func sum(numbers ...int) int {
	all := 0
	for _, n := range numbers {
		all += n
	}
	return all
}
