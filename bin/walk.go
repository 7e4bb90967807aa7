package bin

import (
	"iter"
	"math"
	"slices"

	"laystall/api"
)

// maxPlaces is how many places a row can have: in front of the bins, and behind each of them.
const maxPlaces = MaxBins + 1

// nowhere stands for the number of a walk that there is not.
const nowhere = math.MaxInt

// lead is where a fact leads, and its number.
type lead struct{ from, to, number int }

// table has the least number of a walk from each place to each other one.
type table [maxPlaces][maxPlaces]int

// standing returns the table of walks without facts.
func standing() table {
	var t table
	for from := range t {
		for to := range t {
			if from != to {
				t[from][to] = nowhere
			}
		}
	}
	return t
}

// places returns how many places the row has.
func (w work) places() int { return len(w.Bins) + 1 }

// lead returns where a fact leads.
func (w work) lead(f Fact) lead {
	from, to, span := f.Index, f.Index, api.Span{}
	if f.Weighing {
		g := w.Weighings[f.Index]
		from, to, span = g.From, g.To, g.span()
	} else {
		span = w.spans[f.Index]
	}
	return sideOf(f.Most).lead(from, to, span)
}

// facts yields all facts of bins, and of weighings that count, with where they lead.
func (w work) facts() iter.Seq2[Fact, lead] {
	return func(yield func(Fact, lead) bool) {
		tell := func(f Fact) bool { return yield(f, w.lead(f)) }
		for _, most := range [...]bool{false, true} {
			for b := range w.Bins {
				if !tell(Fact{Index: b, Most: most}) {
					return
				}
			}
			for i := range w.Weighings {
				if w.counts(i) && !tell(Fact{Weighing: true, Index: i, Most: most}) {
					return
				}
			}
		}
	}
}

// spread returns the table of walks with one fact more.
func (w work) spread(now table) table {
	next := now
	for _, l := range w.facts() {
		for place := range w.places() {
			if now[place][l.from] != nowhere {
				next[place][l.to] = min(next[place][l.to], now[place][l.from]+l.number)
			}
		}
	}
	return next
}

// walks returns the tables of walks with at most 0, 1, 2 facts and so on, up to the one that further facts do not better.
// If that never comes, a walk that contradicts has no more facts than there are places.
func (w work) walks() []table {
	tables := []table{standing()}
	for count := range w.places() {
		next := w.spread(tables[count])
		if next == tables[count] {
			break
		}
		tables = append(tables, next)
	}
	return tables
}

// torn returns with how few facts a walk contradicts, and the place at which it begins; None if there is none.
func torn(tables []table) (count, place int) {
	count, place = None, None
search:
	for i, t := range tables {
		for p := range t {
			if t[p][p] < 0 {
				count, place = i, p
				break search
			}
		}
	}
	return count, place
}

// clashes reports whether no contents fit.
func (w work) clashes() bool {
	_, place := torn(w.walks())
	return place != None
}

// walk returns a walk with the number that the last one of some tables has for it.
func (w work) walk(tables []table, from, to int) []Fact {
	var trace func(count, place int) []Fact
	trace = func(count, place int) []Fact {
		if count == 0 {
			return nil
		}
		number, before := tables[count][from][place], tables[count-1][from]
		if before[place] == number {
			return trace(count-1, place)
		}
		var walk []Fact
		for f, l := range w.facts() {
			if l.to == place && before[l.from] != nowhere && before[l.from]+l.number == number {
				walk = append(trace(count-1, l.from), f)
				break
			}
		}
		return walk
	}
	return slices.Clone(trace(len(tables)-1, to))
}

// follow returns the number of a walk, and whether the facts are one between two places.
func (w work) follow(walk []Fact, from, to int) (int, bool) {
	place := from
	var numbers []int
	for _, f := range walk {
		l := w.lead(f)
		if l.from != place {
			return 0, false
		}
		place = l.to
		numbers = append(numbers, l.number)
	}
	return sum(numbers...), place == to
}
