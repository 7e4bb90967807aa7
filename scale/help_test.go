package scale_test

import (
	"slices"
	"testing"

	"laystall/api"
	"laystall/scale"
)

// span is one from lo to hi.
func span(lo, hi int) api.Span { return api.Span{Lo: lo, Hi: hi} }

// drift is one with a first value, and then the minutes and the values of changes.
func drift(first int, more ...int) scale.Drift {
	d := scale.Drift{First: first}
	for i := 0; i+1 < len(more); i += 2 {
		d.Changes = append(d.Changes, scale.Change{Minute: more[i], Value: more[i+1]})
	}
	return d
}

// examples is the book of the chapter's examples, whose cart goes out on some bridge.
func examples(out int) scale.Book {
	return scale.Book{
		Errors: [scale.Bridges]int{2, 2},
		Proofs: []scale.Proof{
			{Minute: 10, Known: 1000, Reads: 1003},
			{Minute: 50, Known: 1000, Reads: 1006},
			{Minute: 90, Known: 1000, Reads: 997},
		},
		Trips: []scale.Trip{{In: scale.Slip{Minute: 20, Reads: 3000}, Out: scale.Slip{Bridge: out, Minute: 30, Reads: 1200}, Mud: 10}},
	}
}

// proved is a book whose bridge 0, with an error, shows so much too much at the minutes 10, 20 and so on.
func proved(off int, more ...int) scale.Book {
	b := scale.Book{Errors: [scale.Bridges]int{off, 0}}
	for i, n := range more {
		b.Proofs = append(b.Proofs, scale.Proof{Minute: 10 * (i + 1), Known: 200, Reads: 200 + n})
	}
	return b
}

// luck is a row of numbers that is the same in each run.
type luck struct{ state uint64 }

// below returns a number from 0 to n - 1.
func (l *luck) below(n int) int {
	l.state = l.state*6364136223846793005 + 1442695040888963407
	return int((l.state >> 33) % uint64(n))
}

// from returns a number from lo to hi.
func (l *luck) from(lo, hi int) int { return lo + l.below(hi-lo+1) }

// size tells how great the books of a test are at most, and how often their bridges change.
type size struct{ proofs, trips, minute, off, changes int }

// small is the size of books of which all drifts can be gone through, minute by minute.
func small() size { return size{proofs: 9, trips: 2, minute: 5, off: 3, changes: 2} }

// large is the size of the greatest books that there can be, dense that of books whose minutes are side by side.
func large() size {
	return size{proofs: scale.MaxProofs, trips: scale.MaxTrips, minute: scale.MaxMinute, off: 12, changes: 4}
}
func dense() size {
	return size{proofs: scale.MaxProofs, trips: scale.MaxTrips, minute: 14, off: 6, changes: 4}
}

// drift returns one with some changes.
func (l *luck) drift(s size) scale.Drift {
	d := drift(l.from(-scale.MaxDrift, scale.MaxDrift))
	last, value := 0, d.First
	for range l.below(s.changes + 1) {
		minute := l.from(last+1, last+1+s.minute/2)
		if minute > s.minute {
			break
		}
		// Small steps and great ones: some can be taken for errors.
		next := min(max(value+l.from(-2*s.off, 2*s.off), -scale.MaxDrift), scale.MaxDrift)
		if next != value {
			d.Changes = append(d.Changes, scale.Change{Minute: minute, Value: next})
			last, value = minute, next
		}
	}
	return d
}

// valueOf returns the value of a drift at a minute, by the words of the chapter.
func valueOf(d scale.Drift, minute int) int {
	value, from := d.First, 0
	for _, c := range d.Changes {
		if from < c.Minute && c.Minute <= minute {
			value, from = c.Value, c.Minute
		}
	}
	return value
}

// book returns a valid one. Most of its proofs are right by one drift of each bridge; one of wild proofs is not, or nearly.
func (l *luck) book(s size, wild int) scale.Book {
	var b scale.Book
	var drifts [scale.Bridges]scale.Drift
	for n := range drifts {
		b.Errors[n] = l.below(s.off + 1)
		drifts[n] = l.drift(s)
	}
	many := l.below(4) // how much more often bridge 0 is proved
	for range l.below(s.proofs + 1) {
		p := scale.Proof{Bridge: count(l.below(many+2) == 0), Minute: l.from(0, s.minute), Known: l.from(100, 1000)}
		n := p.Bridge
		p.Reads = p.Known + valueOf(drifts[n], p.Minute) + l.from(-b.Errors[n], b.Errors[n])
		if l.below(wild) == 0 {
			p.Reads += l.from(-3*s.off, 3*s.off)
		}
		if !slices.ContainsFunc(b.Proofs, func(o scale.Proof) bool { return o.Bridge == n && o.Minute == p.Minute }) {
			b.Proofs = append(b.Proofs, p)
		}
	}
	for range l.below(s.trips + 1) {
		b.Trips = append(b.Trips, l.trip(s))
	}
	return b
}

// trip returns a valid one.
func (l *luck) trip(s size) scale.Trip {
	in := l.from(0, s.minute-1)
	return scale.Trip{
		In:  scale.Slip{Bridge: l.below(scale.Bridges), Minute: in, Reads: l.from(0, 200)},
		Out: scale.Slip{Bridge: l.below(scale.Bridges), Minute: l.from(in+1, s.minute), Reads: l.from(0, 150)},
		Mud: l.below(20),
	}
}

// agrees reports whether a value of a drift fits a proof, by the words of the chapter.
func agrees(b scale.Book, p scale.Proof, value int) bool {
	differ := value - (p.Reads - p.Known)
	return max(differ, -differ) <= b.Errors[p.Bridge]
}

// spanOf goes through all values that fit all proofs of a bridge at a minute; the span is empty if there are none.
func spanOf(b scale.Book, bridge, minute int) api.Span {
	s := span(1, 0)
	for value := -scale.MaxDrift; value <= scale.MaxDrift; value++ {
		if slices.ContainsFunc(b.Proofs, func(p scale.Proof) bool {
			return p.Bridge == bridge && p.Minute == minute && !agrees(b, p, value)
		}) {
			continue
		}
		if s.Lo > s.Hi {
			s.Lo = value
		}
		s.Hi = value
	}
	return s
}

// part is of minutes at which a drift has the same value, one of a span.
type part struct {
	minutes []int
	can     api.Span
}

// parts goes through all ways to part the minutes of the proofs of a bridge, and some more minutes, by at most so many changes, so that each part has a value that fits.
func parts(b scale.Book, bridge int, more []int, most int, visit func([]part)) {
	minutes := slices.Clone(more)
	for _, p := range b.Proofs {
		if p.Bridge == bridge {
			minutes = append(minutes, p.Minute)
		}
	}
	slices.Sort(minutes)
	minutes = slices.Compact(minutes)
	var add func(now []part, left []int)
	add = func(now []part, left []int) {
		if len(left) == 0 {
			visit(now)
			return
		}
		can := spanOf(b, bridge, left[0])
		if can.Lo <= can.Hi && len(now) <= most {
			add(append(slices.Clone(now), part{minutes: left[:1], can: can}), left[1:])
		}
		if len(now) == 0 {
			return
		}
		last := now[len(now)-1]
		can = span(max(can.Lo, last.can.Lo), min(can.Hi, last.can.Hi))
		if can.Lo <= can.Hi {
			longer := slices.Clone(now)
			longer[len(now)-1] = part{minutes: slices.Concat(last.minutes, left[:1]), can: can}
			add(longer, left[1:])
		}
	}
	add(nil, minutes)
}

// fits reports whether a drift with at most so many changes fits all proofs of a bridge.
func fits(b scale.Book, bridge, most int) bool {
	found := false
	parts(b, bridge, nil, most, func([]part) { found = true })
	return found
}

// fewest returns the least number of changes that fit all proofs of a bridge; -1 if there is none.
func fewest(b scale.Book, bridge int) int {
	for most := range scale.MaxProofs {
		if fits(b, bridge, most) {
			return most
		}
	}
	return -1
}

// every goes through all drifts of a bridge, minute by minute up to a last one, that fit its proofs with at most so many changes.
func every(b scale.Book, bridge, last, most int, visit func(values []int, changes int)) {
	values := make([]int, last+1)
	fit := make([]api.Span, last+1)
	for minute := range fit {
		fit[minute] = spanOf(b, bridge, minute)
	}
	var step func(minute, changes int)
	step = func(minute, changes int) {
		if minute > last {
			visit(values, changes)
			return
		}
		for value := fit[minute].Lo; value <= fit[minute].Hi; value++ {
			more := changes
			if minute > 0 && value != values[minute-1] {
				more++
			}
			if more <= most {
				values[minute] = value
				step(minute+1, more)
			}
		}
	}
	step(0, 0)
}

// few is with how many changes all drifts of a bridge can be gone through: the fewer proofs, the more drifts there are.
func few(b scale.Book, bridge int) int { return min((len(indices(b, bridge))+1)/2, 2) }

// wide is a span that grows with each number that it is given.
type wide struct {
	api.Span
	any bool
}

// take gives a span a number.
func (w *wide) take(n int) {
	if !w.any {
		w.Span, w.any = span(n, n), true
	}
	w.Span = span(min(w.Lo, n), max(w.Hi, n))
}

// inside reports whether a span has no number that another one has not.
func inside(s, other api.Span) bool { return other.Lo <= s.Lo && s.Lo <= s.Hi && s.Hi <= other.Hi }

// indices are those of the proofs of a bridge.
func indices(b scale.Book, bridge int) []int {
	var list []int
	for i, p := range b.Proofs {
		if p.Bridge == bridge {
			list = append(list, i)
		}
	}
	return list
}

// lacking is a book without some of its proofs.
func lacking(b scale.Book, out ...int) scale.Book {
	var list []scale.Proof
	for i, p := range b.Proofs {
		if !slices.Contains(out, i) {
			list = append(list, p)
		}
	}
	b.Proofs = list
	return b
}

// count is 1 for what is so.
func count(is bool) int {
	if is {
		return 1
	}
	return 0
}

// noError fails a test if a call that has no reason for it returns an error.
func noError(t *testing.T, errors ...api.Errno) {
	t.Helper()
	for _, e := range errors {
		if e != api.OK {
			t.Fatal("error", e)
		}
	}
}
