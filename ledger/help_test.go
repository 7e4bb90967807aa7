package ledger_test

import (
	"fmt"
	"slices"
	"strings"
	"testing"

	"laystall/api"
	"laystall/ledger"
)

// list makes a list of numbers, line a line, at a place.
func list(numbers ...int) []int       { return numbers }
func line(figures ...int) ledger.Line { return figures }
func at(page, line, column int) ledger.Place {
	return ledger.Place{Page: page, Line: line, Column: column}
}

// put puts a figure at a place.
func put(page, line, column, figure int) ledger.Mending {
	return ledger.Mending{At: at(page, line, column), Figure: figure}
}

// names returns the columns of each kind, as in the table of the chapter, and words their words.
func names() [][]string {
	return [][]string{
		{"cart", "bin", "minute", "load"}, {"bridge", "minute", "reads"}, {"paper", "rags", "glass", "tin", "bone"},
		{"sacks", "foul", "price"}, {"strip", "day", "pounds", "cover"}, {"kind", "place", "lo", "hi"},
	}
}
func words() []string { return strings.Fields("rounds weights trays lots layers words") }

// kinds returns all kinds, columnsOf how many columns one has.
func kinds() []ledger.Kind        { return []ledger.Kind{0, 1, 2, 3, 4, 5} }
func columnsOf(k ledger.Kind) int { return len(names()[k]) }
func five() [][]int {
	return [][]int{{0, 10, 1003}, {0, 50, 1006}, {1, 60, 2000}, {0, 90, 997}, {1, 95, 30}}
}
func example() ledger.Sheet { return sheetOf(ledger.Weights, five()) }
func exampleText() string {
	return "book weights 5\npage 1\n0 10 1003 = 1013\n0 50 1006 = 1056\n1 60 2000 = 2061\n0 90 997 = 1087\nsum 1 210 5006 = 5217\ncarried 1 210 5006 = 5217\n" +
		"page 2\n1 95 30 = 126\nsum 1 95 30 = 126\ncarried 2 305 5036 = 5343\nend 2\n"
}

// total adds the numbers of a list.
func total(numbers []int) int {
	n := 0
	for _, x := range numbers {
		n += x
	}
	return n
}

// sheetOf returns the sheet of entries: figure by figure of Sum, and of Carried all rows that came so far.
func sheetOf(k ledger.Kind, entries [][]int) ledger.Sheet {
	s := ledger.Sheet{Kind: k}
	width := columnsOf(k) + 1
	carried := make([]int, width)
	for i, entry := range entries {
		if i%4 == 0 {
			s.Pages = append(s.Pages, ledger.Page{Sum: make(ledger.Line, width)})
		}
		p := &s.Pages[i/4]
		row := append(slices.Clone(entry), total(entry))
		p.Rows = append(p.Rows, row)
		for column, figure := range row {
			p.Sum[column] += figure
			carried[column] += figure
		}
		p.Carried = slices.Clone(carried)
	}
	return s
}

// copyOf returns a sheet that shares no memory with another one.
func copyOf(s ledger.Sheet) ledger.Sheet {
	s.Pages = slices.Clone(s.Pages)
	for i := range s.Pages {
		p := &s.Pages[i]
		p.Rows = slices.Clone(p.Rows)
		for row := range p.Rows {
			p.Rows[row] = slices.Clone(p.Rows[row])
		}
		p.Sum, p.Carried = slices.Clone(p.Sum), slices.Clone(p.Carried)
	}
	return s
}

// same reports whether two sheets are the same, page by page and line by line.
func same(a, b ledger.Sheet) bool {
	return a.Kind == b.Kind && slices.EqualFunc(a.Pages, b.Pages, func(p, q ledger.Page) bool {
		return slices.EqualFunc(p.Rows, q.Rows, slices.Equal[ledger.Line]) && slices.Equal(p.Sum, q.Sum) && slices.Equal(p.Carried, q.Carried)
	})
}

// lineAt returns the line of a page with a number, where it stands.
func lineAt(s ledger.Sheet, page, number int) *ledger.Line {
	switch p := &s.Pages[page]; number {
	case 4:
		return &p.Sum
	case 5:
		return &p.Carried
	default:
		return &p.Rows[number]
	}
}

// spots returns all lines of a sheet: the index of the page, and the number of the line.
func spots(s ledger.Sheet) [][2]int {
	var all [][2]int
	for page, p := range s.Pages {
		for row := range p.Rows {
			all = append(all, [2]int{page, row})
		}
		all = append(all, [2]int{page, 4}, [2]int{page, 5})
	}
	return all
}

// places returns all places of a sheet whose lines are not torn.
func places(s ledger.Sheet) []ledger.Place {
	var all []ledger.Place
	for _, spot := range spots(s) {
		for column := range *lineAt(s, spot[0], spot[1]) {
			all = append(all, at(spot[0], spot[1], column))
		}
	}
	return all
}

// figureAt returns the figure at a place, where it stands.
func figureAt(s ledger.Sheet, p ledger.Place) *int { return &(*lineAt(s, p.Page, p.Line))[p.Column] }

// putOf returns a sheet with a figure at a place.
func putOf(s ledger.Sheet, p ledger.Place, figure int) ledger.Sheet {
	s = copyOf(s)
	*figureAt(s, p) = figure
	return s
}

// tornOf returns a sheet with some lines torn.
func tornOf(s ledger.Sheet, torn ...[2]int) ledger.Sheet {
	s = copyOf(s)
	for _, spot := range torn {
		*lineAt(s, spot[0], spot[1]) = nil
	}
	return s
}

// part is a figure that is added in a sum, or taken off.
type part struct {
	ledger.Place
	sign int
}

// aSum is a sum of a sheet, by its figures: with their signs they are 0 together, if it agrees. It is told at the first one.
type aSum struct {
	check ledger.Check
	parts []part
}

// sumsOf returns all sums of a sheet: across, down and on, each in the order of pages, lines and columns.
func sumsOf(s ledger.Sheet) []aSum {
	var all []aSum
	width := columnsOf(s.Kind) + 1
	for _, spot := range spots(s) {
		across := aSum{ledger.Across, []part{{at(spot[0], spot[1], width-1), -1}}}
		for column := range width - 1 {
			across.parts = append(across.parts, part{at(spot[0], spot[1], column), 1})
		}
		all = append(all, across)
	}
	for page, p := range s.Pages {
		for column := range width {
			down := aSum{ledger.Down, []part{{at(page, 4, column), -1}}}
			for row := range p.Rows {
				down.parts = append(down.parts, part{at(page, row, column), 1})
			}
			on := aSum{ledger.On, []part{{at(page, 5, column), -1}, {at(page, 4, column), 1}}}
			if page > 0 {
				on.parts = append(on.parts, part{at(page-1, 5, column), 1})
			}
			all = append(all, down, on)
		}
	}
	return all
}

// counts reports whether no line of a sum is torn.
func counts(s ledger.Sheet, sum aSum) bool {
	return !slices.ContainsFunc(sum.parts, func(p part) bool { return len(*lineAt(s, p.Page, p.Line)) == 0 })
}

// off returns by how much a sum disagrees.
func off(s ledger.Sheet, sum aSum) int {
	n := 0
	for _, p := range sum.parts {
		n += p.sign * *figureAt(s, p.Place)
	}
	return n
}

// wrongOf returns the places at which sums disagree.
func wrongOf(s ledger.Sheet, c ledger.Check) []ledger.Place {
	var all []ledger.Place
	for _, sum := range sumsOf(s) {
		if sum.check == c && counts(s, sum) && off(s, sum) != 0 {
			all = append(all, sum.parts[0].Place)
		}
	}
	return all
}

// isTorn reports whether a line of a sheet is.
func isTorn(s ledger.Sheet) bool {
	return slices.ContainsFunc(spots(s), func(spot [2]int) bool { return len(*lineAt(s, spot[0], spot[1])) == 0 })
}

// rightOf reports whether a sheet is right.
func rightOf(s ledger.Sheet) bool {
	if isTorn(s) || slices.ContainsFunc(sumsOf(s), func(sum aSum) bool { return off(s, sum) != 0 }) {
		return false
	}
	return !slices.ContainsFunc(places(s), func(p ledger.Place) bool {
		return p.Line < 4 && p.Column < columnsOf(s.Kind) && *figureAt(s, p) > 99999
	})
}

// mendingsOf returns all ways to mend a sheet: each figure that makes one of its sums agree is tried.
func mendingsOf(s ledger.Sheet) []ledger.Mending {
	var all []ledger.Mending
	for _, sum := range sumsOf(s) {
		for _, p := range sum.parts {
			m := ledger.Mending{At: p.Place, Figure: *figureAt(s, p.Place) - p.sign*off(s, sum)}
			if m.Figure >= 0 && m.Figure <= 99999999 && rightOf(putOf(s, m.At, m.Figure)) && !slices.Contains(all, m) {
				all = append(all, m)
			}
		}
	}
	return all
}

// textOf returns the text of a sheet.
func textOf(s ledger.Sheet) string {
	rows := 0
	text := ""
	for i, p := range s.Pages {
		rows += len(p.Rows)
		text += fmt.Sprintf("page %d\n", i+1)
		heads := append(slices.Repeat([]string{""}, len(p.Rows)), "sum ", "carried ")
		for number, l := range slices.Concat(p.Rows, []ledger.Line{p.Sum, p.Carried}) {
			if len(l) == 0 {
				text += "?\n"
				continue
			}
			text += heads[number]
			for _, figure := range l[:len(l)-1] {
				text += fmt.Sprint(figure, " ")
			}
			text += fmt.Sprintln("=", l[len(l)-1])
		}
	}
	return fmt.Sprintf("book %s %d\n%send %d\n", words()[s.Kind], rows, text, len(s.Pages))
}

// luck is a row of numbers that is the same in each run.
type luck struct{ state uint64 }

// below returns a number from 0 to n - 1.
func (l *luck) below(n int) int {
	l.state = l.state*6364136223846793005 + 1442695040888963407
	return int((l.state >> 33) % uint64(n))
}

// from returns a number from lo to hi.
func (l *luck) from(lo, hi int) int { return lo + l.below(hi-lo+1) }

// some returns any number from lo to hi, often one of the least or of the greatest ones.
func (l *luck) some(lo, hi int) int {
	switch l.below(6) {
	case 0:
		return min(lo+l.below(3), hi)
	case 1:
		return max(hi-l.below(3), lo)
	}
	return l.from(lo, hi)
}

// entries returns so many of a kind, with numbers up to a limit.
func (l *luck) entries(k ledger.Kind, rows, limit int) [][]int {
	var all [][]int
	for range rows {
		var entry []int
		for range columnsOf(k) {
			entry = append(entry, l.some(0, limit))
		}
		all = append(all, entry)
	}
	return all
}

// kind returns any kind.
func (l *luck) kind() ledger.Kind { return ledger.Kind(l.below(6)) }

// limit returns a limit of entries.
func (l *luck) limit() int { return list(1, 3, 40, 5000, 99999)[l.below(5)] }

// sheet returns a right one of any kind.
func (l *luck) sheet() ledger.Sheet {
	k := l.kind()
	return sheetOf(k, l.entries(k, l.from(1, 24), l.limit()))
}

// spot returns any line of a sheet, place any place of one that is not torn.
func (l *luck) spot(s ledger.Sheet) [2]int {
	all := spots(s)
	return all[l.below(len(all))]
}
func (l *luck) place(s ledger.Sheet) ledger.Place {
	all := places(s)
	return all[l.below(len(all))]
}

// other returns another figure than one: often one that is nearly the same, or has a digit damaged.
func (l *luck) other(figure int) int {
	for {
		n := []int{figure + l.from(-3, 3), figure + 10*l.from(-9, 9), l.some(0, 99999), l.some(0, 99999999), figure / 10}[l.below(5)]
		if n >= 0 && n <= 99999999 && n != figure {
			return n
		}
	}
}

// damaged returns a sheet in which so many figures are other ones.
func (l *luck) damaged(s ledger.Sheet, many int) ledger.Sheet {
	s = copyOf(s)
	all := places(s)
	for range min(many, len(all)) {
		i := l.below(len(all))
		figure := figureAt(s, all[i])
		*figure = l.other(*figure)
		all = slices.Delete(all, i, i+1)
	}
	return s
}

// torn returns a sheet in which so many lines are torn, some of them twice.
func (l *luck) torn(s ledger.Sheet, many int) ledger.Sheet {
	for range many {
		s = tornOf(s, l.spot(s))
	}
	return s
}

// count is 1 for what is so.
func count(is bool) int {
	if is {
		return 1
	}
	return 0
}

// noError fails a test if a call that has no reason for it returns an error.
func noError(t *testing.T, errors ...api.Errno) {
	t.Helper()
	for _, e := range errors {
		if e != api.OK {
			t.Fatal("error", e)
		}
	}
}
