package scale

import "laystall/api"

// group is of proofs, one behind the other, none of which excludes another one. As they are spans of numbers, one value fits them all.
type group struct {
	proofs []int
	// next is the first proof behind the group, and the proof of the group that excludes it.
	next Pair
}

// groups returns as few groups as there can be of some proofs of a bridge, the earliest one first.
func (w work) groups(line []int) []group {
	var list []group
	var grow func(first int)
	grow = func(first int) {
		if first == len(line) {
			return
		}
		end, next := w.end(line, first)
		list = append(list, group{proofs: line[first:end], next: next})
		grow(end)
	}
	grow(0)
	return list
}

// end returns where the group ends that begins with some proof of a line, and the pair for which it does, if it does so before the line.
func (w work) end(line []int, first int) (int, Pair) {
	end, next := len(line), Pair{}
search:
	for i := first + 1; i < len(line); i++ {
		for _, other := range line[first:i] {
			if w.exclude(other, line[i]) {
				end, next = i, Pair{A: other, B: line[i]}
				break search
			}
		}
	}
	return end, next
}

// changes returns how few changes fit some proofs of a bridge, of which none has an empty span.
func (w work) changes(line []int) int { return max(len(w.groups(line))-1, 0) }

// settled is a book at work with the proofs of a bridge, all of which a drift fits.
type settled struct {
	work
	line []int
}

// settle returns the proofs of a bridge; the errors of Check, ErrNoSuch and ErrClash.
func settle(b Book, bridge int) (settled, api.Errno) {
	if e := askBridge(b, bridge); e != api.OK {
		return settled{}, e
	}
	w := begin(b)
	line := w.line(bridge)
	if !all(line, w.possible) {
		return settled{}, api.ErrClash
	}
	return settled{work: w, line: line}, api.OK
}

// find returns a drift with the fewest changes.
func (s settled) find() Drift {
	var d Drift
	for i, g := range s.groups(s.line) {
		c := Change{Minute: s.Proofs[g.proofs[0]].Minute, Value: s.value(g)}
		if i == 0 {
			d.First = c.Value
		} else {
			d = d.then(c)
		}
	}
	return d
}

// value returns the least value that fits a group.
func (s settled) value(g group) int {
	least := func(proof int) int { return s.spans[proof].Lo }
	return greatest(-MaxDrift, fields(g.proofs, least)...)
}

// apart returns pairs that are apart: each group ends with one, but for the last one.
func (s settled) apart() []Pair {
	var pairs []Pair
	groups := s.groups(s.line)
	for i := range s.changes(s.line) {
		pairs = append(pairs, groups[i].next)
	}
	return pairs
}

// when returns the minutes at which a change of a drift with the fewest changes can be, and whether there is one.
func (s settled) when(change int) (api.Span, bool) {
	var span api.Span
	found := false
	fewest := s.changes(s.line)
	// The change is behind some proofs and not behind the next one; each side has as many changes as are left for it.
	for i := 1; i < len(s.line); i++ {
		if s.changes(s.line[:i]) > change || s.changes(s.line[i:]) > fewest-1-change {
			continue
		}
		if !found {
			span.Lo = s.Proofs[s.line[i-1]].Minute + 1
		}
		span.Hi, found = s.Proofs[s.line[i]].Minute, true
	}
	return span, found
}

// areApart reports whether pairs of proofs of a bridge are apart.
func (w work) areApart(pairs []Pair) bool {
	last := 0
	for _, p := range pairs {
		a, b := w.Proofs[p.A], w.Proofs[p.B]
		if a.Minute < last || b.Minute <= a.Minute || !w.exclude(p.A, p.B) {
			return false
		}
		last = b.Minute
	}
	return true
}
