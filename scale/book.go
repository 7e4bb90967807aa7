package scale

import (
	"iter"
	"slices"

	"laystall/api"
)

// Check returns the error of a book.
func Check(b Book) api.Errno {
	switch {
	case len(b.Proofs) > MaxProofs || len(b.Trips) > MaxTrips:
		return api.ErrCount
	case !all(b.Errors[:], isError) || !all(b.Proofs, isProof) || !all(b.Trips, isTrip):
		return api.ErrRange
	case !all(fields(b.Proofs, Proof.bridge), isBridge) || !all(b.Trips, Trip.exists):
		return api.ErrNoSuch
	case twice(b.Proofs):
		return api.ErrTwice
	case !all(b.Trips, Trip.inOrder):
		return api.ErrOrder
	}
	return api.OK
}

// askBridge returns the errors of Check, and then that of a bridge.
func askBridge(b Book, bridge int) api.Errno {
	if e := Check(b); e != api.OK {
		return e
	}
	if !isBridge(bridge) {
		return api.ErrNoSuch
	}
	return api.OK
}

// askIndex returns the errors of Check, and then that of an index of so many things of the book.
func askIndex(b Book, index, count int) api.Errno {
	if e := Check(b); e != api.OK {
		return e
	}
	if !within(index, 0, count-1) {
		return api.ErrNoSuch
	}
	return api.OK
}

// bridge is that of a proof.
func (p Proof) bridge() int { return p.Bridge }

// minute is that of a proof.
func (p Proof) minute() int { return p.Minute }

// exists reports whether there are the bridges of a trip.
func (t Trip) exists() bool { return isBridge(t.In.Bridge) && isBridge(t.Out.Bridge) }

// inOrder reports whether a cart goes out later than it comes in.
func (t Trip) inOrder() bool { return t.In.Minute < t.Out.Minute }

// work is a book at work: the span of each proof, which is empty if its Lo is greater than its Hi.
type work struct {
	Book
	spans []api.Span
}

// begin puts a book to work.
func begin(b Book) work {
	spans := make([]api.Span, len(b.Proofs))
	for i, p := range b.Proofs {
		middle, off := p.Reads-p.Known, b.Errors[p.Bridge]
		spans[i] = meet(anything(), api.Span{Lo: middle - off, Hi: middle + off})
	}
	return work{Book: b, spans: spans}
}

// told returns a book at work with one proof more, which tells the drift at the minute of a slip exactly.
func (w work) told(s Slip, value int) work {
	w.Proofs = append(slices.Clone(w.Proofs), Proof{Bridge: s.Bridge, Minute: s.Minute})
	w.spans = append(slices.Clone(w.spans), api.Span{Lo: value, Hi: value})
	return w
}

// proofs yields the proofs of a bridge with their indices, the earliest one first.
func (w work) proofs(bridge int) iter.Seq2[int, Proof] {
	return func(yield func(int, Proof) bool) {
		var line []int
		for i, p := range w.Proofs {
			if p.Bridge == bridge {
				line = append(line, i)
			}
		}
		slices.SortStableFunc(line, func(a, b int) int { return w.Proofs[a].Minute - w.Proofs[b].Minute })
		for _, i := range line {
			if !yield(i, w.Proofs[i]) {
				return
			}
		}
	}
}

// line returns the indices of the proofs of a bridge, the earliest one first.
func (w work) line(bridge int) []int {
	var line []int
	for i := range w.proofs(bridge) {
		line = append(line, i)
	}
	return line
}

// of returns a field of each proof of a bridge, the earliest one first.
func (w work) of(bridge int, field func(Proof) int) []int {
	var list []int
	for _, p := range w.proofs(bridge) {
		list = append(list, field(p))
	}
	return list
}

// possible reports whether the span of a proof is not empty.
func (w work) possible(proof int) bool { return !empty(w.spans[proof]) }

// exclude reports whether two proofs of a bridge exclude each other.
func (w work) exclude(a, b int) bool { return empty(meet(w.spans[a], w.spans[b])) }

// isError reports whether a bridge can have such an error.
func isError(n int) bool { return within(n, 0, MaxError) }

// isProof reports whether the numbers of a proof are within their limits.
func isProof(p Proof) bool {
	return isMinute(p.Minute) && isPounds(p.Known) && within(p.Reads, -100, MaxPounds)
}

// isTrip reports whether the numbers of a trip are within their limits.
func isTrip(t Trip) bool { return isSlip(t.In) && isSlip(t.Out) && within(t.Mud, 0, MaxMud) }

// isSlip reports whether the numbers of a slip are within their limits.
func isSlip(s Slip) bool { return isMinute(s.Minute) && isPounds(s.Reads) }

// isBridge reports whether there is such a bridge.
func isBridge(n int) bool { return within(n, 0, Bridges-1) }

// isMinute reports whether a number is a minute of the book.
func isMinute(n int) bool { return within(n, 0, MaxMinute) }

// isPounds reports whether a number is a weight.
func isPounds(n int) bool { return within(n, 0, MaxPounds) }

// isMost reports whether drifts can be asked for with at most so many changes.
func isMost(n int) bool { return within(n, 0, MaxChanges) }

// twice reports whether two proofs of a bridge are of the same minute.
func twice(proofs []Proof) bool {
	for i, p := range proofs {
		same := func(o Proof) bool { return o.Bridge == p.Bridge && o.Minute == p.Minute }
		if slices.ContainsFunc(proofs[:i], same) {
			return true
		}
	}
	return false
}

// anything is the span of all values of a drift.
func anything() api.Span { return api.Span{Lo: -MaxDrift, Hi: MaxDrift} }

// meet returns the numbers that two spans have in common.
func meet(a, b api.Span) api.Span { return api.Span{Lo: max(a.Lo, b.Lo), Hi: min(a.Hi, b.Hi)} }

// empty reports whether a span has no number.
func empty(s api.Span) bool { return s.Lo > s.Hi }

// all reports whether each element of a list is as asked.
func all[T any](list []T, is func(T) bool) bool {
	for _, x := range list {
		if !is(x) {
			return false
		}
	}
	return true
}

// fields returns a number of each element of a list.
func fields[T any](list []T, field func(T) int) []int {
	numbers := make([]int, len(list))
	for i, x := range list {
		numbers[i] = field(x)
	}
	return numbers
}

// greatest returns the greatest of several numbers.
func greatest(first int, more ...int) int {
	for _, n := range more {
		first = max(first, n)
	}
	return first
}

// within reports whether a number is from lo to hi.
func within(n, lo, hi int) bool { return n >= lo && n <= hi }
