package bin

import "laystall/api"

// settled is a row at work that does not clash, with the least numbers of its walks.
type settled struct {
	work
	least table
}

// settle returns what a row says; the errors of Check, those of bins, and ErrClash.
func settle(r Row, from, to int) (settled, api.Errno) {
	if e := askBins(r, from, to); e != api.OK {
		return settled{}, e
	}
	w := begin(r)
	tables := w.walks()
	if _, place := torn(tables); place != None {
		return settled{}, api.ErrClash
	}
	return settled{work: w, least: tables[len(tables)-1]}, api.OK
}

// bound returns how much bins hold at most, or at least.
func (s settled) bound(of side, from, to int) int {
	near, far := of.places(from, to)
	return of.sign * s.least[near][far]
}

// sum returns how much bins can hold together.
func (s settled) sum(from, to int) api.Span {
	return api.Span{Lo: s.bound(lower(), from, to), Hi: s.bound(upper(), from, to)}
}

// contents returns contents that fit, in which the bins on the way from a place to each other one hold what the least walk between them says.
func (s settled) contents(place int) []int {
	contents := make([]int, len(s.Bins))
	for b := range contents {
		contents[b] = s.least[place][b+1] - s.least[place][b]
	}
	return contents
}

// width returns the width of the row.
func (s settled) width() int {
	var widths []int
	for b := range s.Bins {
		span := s.sum(b, b)
		widths = append(widths, span.Hi-span.Lo)
	}
	return sum(widths...)
}

// with returns the row with one fact more, which contradicts nothing: no least walk needs it twice.
func (s settled) with(l lead) settled {
	next := s
	for from := range s.places() {
		for to := range s.places() {
			next.least[from][to] = min(s.least[from][to], s.least[from][l.from]+l.number+s.least[l.to][to])
		}
	}
	return next
}

// left returns the width that can be left by bins.
func (s settled) left(from, to int) int {
	widest := 0
	can := s.sum(from, to)
	for pounds := can.Lo; pounds <= can.Hi; pounds++ {
		exact := Weighing{From: from, To: to, Pounds: pounds}.span()
		one := s.with(upper().lead(from, to, exact))
		both := one.with(lower().lead(from, to, exact))
		widest = max(widest, both.width())
	}
	return widest
}
