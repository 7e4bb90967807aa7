package lot_test

import (
	"slices"
	"testing"

	"laystall/api"
	"laystall/lot"
)

// list makes a list of numbers, span a span.
func list(numbers ...int) []int  { return numbers }
func span(lo, hi int) api.Span   { return api.Span{Lo: lo, Hi: hi} }
func point(n int) api.Span       { return span(n, n) }
func empty() api.Span            { return api.Span{} }
func has(s api.Span, n int) bool { return s.Lo <= n && n <= s.Hi }

// examples is the store of the chapter's examples.
func examples() lot.Store {
	return lot.Store{
		Pickings: []lot.Picking{{Sacks: 4, Worst: 2}, {Sacks: 6, Worst: 1, Opened: 2}, {Sacks: 3, Worst: 3, Opened: 2, Found: 1}},
		Grades:   []lot.Grade{{Foul: 10, Price: 9}, {Foul: 30, Price: 6}},
		Lots:     2,
	}
}

// luck is a row of numbers that is the same in each run.
type luck struct{ state uint64 }

// below returns a number from 0 to n - 1.
func (l *luck) below(n int) int {
	l.state = l.state*6364136223846793005 + 1442695040888963407
	return int((l.state >> 33) % uint64(n))
}

// from returns a number from lo to hi.
func (l *luck) from(lo, hi int) int { return lo + l.below(hi-lo+1) }

// size tells how great the stores of a test are at most.
type size struct{ pickings, sacks, lots int }

// small is the size of stores of which all plans can be gone through, middle that of those of which all truths about all lots can be, large the greatest there is.
func small() size  { return size{pickings: 2, sacks: 3, lots: 3} }
func middle() size { return size{pickings: 3, sacks: 4, lots: 2} }
func large() size {
	return size{pickings: lot.MaxPickings, sacks: lot.MaxSacks, lots: lot.MaxLots}
}

// picking returns one of so many sacks at most, in most of which few are foul.
func (l *luck) picking(sacks int) lot.Picking {
	p := lot.Picking{Sacks: l.from(0, sacks)}
	p.Worst = l.from(0, p.Sacks)
	if l.below(3) > 0 {
		p.Worst = min(p.Worst, l.below(3))
	}
	if l.below(2) == 0 {
		p.Opened = l.from(0, p.Sacks)
		p.Found = min(l.from(0, p.Opened), p.Worst, l.below(3))
	}
	return p
}

// grades returns up to four that are in order.
func (l *luck) grades() []lot.Grade {
	var grades []lot.Grade
	g := lot.Grade{Foul: l.from(0, 20), Price: l.from(60, lot.MaxPrice)}
	for range l.from(0, lot.MaxGrades) {
		grades = append(grades, g)
		g.Foul += l.from(1, 26)
		g.Price -= l.from(1, 19)
	}
	return grades
}

// store returns a valid one.
func (l *luck) store(z size) lot.Store {
	s := lot.Store{Grades: l.grades(), Lots: l.from(0, z.lots)}
	for range l.from(1, z.pickings) {
		s.Pickings = append(s.Pickings, l.picking(z.sacks))
	}
	return s
}

// full returns a store of as many pickings as there can be, with as many sacks, and lots, as there can be.
func (l *luck) full() lot.Store {
	s := lot.Store{Lots: lot.MaxLots}
	for len(s.Grades) == 0 {
		s.Grades = l.grades()
	}
	for range lot.MaxPickings {
		p := l.picking(0)
		p.Sacks, p.Worst = lot.MaxSacks, l.below(3)
		s.Pickings = append(s.Pickings, p)
	}
	return s
}

// lot returns one of a store.
func (l *luck) lot(s lot.Store) []int {
	var sacks []int
	for _, p := range s.Pickings {
		sacks = append(sacks, l.from(0, p.Sacks))
	}
	return sacks
}

// copyOf returns a store that shares no memory with another one.
func copyOf(s lot.Store) lot.Store {
	s.Pickings, s.Grades = slices.Clone(s.Pickings), slices.Clone(s.Grades)
	return s
}

// foulOf returns how many sacks of a picking can be foul, by the words of the chapter.
func foulOf(p lot.Picking) api.Span {
	return span(p.Found, min(p.Worst, p.Sacks-p.Opened+p.Found))
}

// stock returns all sacks of a store.
func stock(s lot.Store) []int {
	var sacks []int
	for _, p := range s.Pickings {
		sacks = append(sacks, p.Sacks)
	}
	return sacks
}

// total returns how many sacks there are.
func total(sacks []int) int {
	n := 0
	for _, k := range sacks {
		n += k
	}
	return n
}

// parts goes through all lots that can be made of some sacks, in lexicographic order.
func parts(of []int, visit func(sacks []int)) {
	sacks := make([]int, len(of))
	var add func(picking int)
	add = func(picking int) {
		if picking == len(of) {
			visit(sacks)
			return
		}
		for n := range of[picking] + 1 {
			sacks[picking] = n
			add(picking + 1)
		}
	}
	add(0)
}

// truths goes through all truths about a lot.
func truths(s lot.Store, sacks []int, visit func(foul, inside []int)) {
	parts(stock(s), func(foul []int) {
		for i, p := range s.Pickings {
			if !has(foulOf(p), foul[i]) {
				return
			}
		}
		parts(sacks, func(inside []int) {
			for i, p := range s.Pickings {
				if outside := foul[i] - inside[i]; outside < 0 || outside > p.Sacks-sacks[i] {
					return
				}
			}
			visit(foul, inside)
		})
	})
}

// spanOf returns how many foul sacks a lot can have, picking by picking.
func spanOf(s lot.Store, sacks []int) api.Span {
	all := empty()
	for i, p := range s.Pickings {
		least, most := p.Sacks, 0
		for foul := foulOf(p).Lo; foul <= foulOf(p).Hi; foul++ {
			for inside := range sacks[i] + 1 {
				if outside := foul - inside; outside >= 0 && outside <= p.Sacks-sacks[i] {
					least, most = min(least, inside), max(most, inside)
				}
			}
		}
		all = span(all.Lo+least, all.Hi+most)
	}
	return all
}

// surely reports whether a lot surely has a grade.
func surely(s lot.Store, sacks []int, g lot.Grade) bool {
	return total(sacks) > 0 && 100*spanOf(s, sacks).Hi <= g.Foul*total(sacks)
}

// sureOf returns the first grade that a lot surely has, and what the lot brings.
func sureOf(s lot.Store, sacks []int) (grade, brings int) {
	for i, g := range s.Grades {
		if surely(s, sacks, g) {
			return i, total(sacks) * g.Price
		}
	}
	return -1, 0
}

// cost returns that of some sacks at prices.
func cost(sacks, prices []int) int {
	n := 0
	for i, k := range sacks {
		n += k * prices[i]
	}
	return n
}

// bestOf returns the most that a plan brings: with one lot after the other, of all that can be left for it.
func bestOf(s lot.Store) int {
	const sevens = 7 * 7 * 7 * 7
	index := func(sacks []int) int {
		i := 0
		for _, n := range sacks {
			i = 7*i + n
		}
		return i
	}
	var brings, most [sevens]int
	parts(stock(s), func(sacks []int) { _, brings[index(sacks)] = sureOf(s, sacks) })
	for range s.Lots {
		var more [sevens]int
		parts(stock(s), func(left []int) {
			at := index(left)
			parts(left, func(sacks []int) {
				i := index(sacks)
				more[at] = max(more[at], brings[i]+most[at-i])
			})
		})
		most = more
	}
	return most[index(stock(s))]
}

// count is 1 for what is so.
func count(is bool) int {
	if is {
		return 1
	}
	return 0
}

// noError fails a test if a call that has no reason for it returns an error.
func noError(t *testing.T, errors ...api.Errno) {
	t.Helper()
	for _, e := range errors {
		if e != api.OK {
			t.Fatal("error", e)
		}
	}
}
