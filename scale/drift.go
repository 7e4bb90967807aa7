package scale

import "laystall/api"

// askDrift returns the errors of a drift.
func askDrift(d Drift) api.Errno {
	switch {
	case len(d.Changes) > MaxProofs:
		return api.ErrCount
	case !isValue(d.First) || !all(d.Changes, isChange):
		return api.ErrRange
	case !increasing(d.Changes):
		return api.ErrOrder
	case !d.moves():
		return api.ErrWrong
	}
	return api.OK
}

// moves reports whether each change of a drift has another value than there was before it.
func (d Drift) moves() bool {
	before := d.First
	for _, c := range d.Changes {
		if c.keeps(before) {
			return false
		}
		before = c.Value
	}
	return true
}

// keeps reports whether a change is none, because the value was there before it.
func (c Change) keeps(value int) bool { return c == Change{Minute: c.Minute, Value: value} }

// at returns the value of a drift at a minute.
func (d Drift) at(minute int) int {
	value := d.First
	for _, c := range d.Changes {
		if c.Minute <= minute {
			value = c.Value
		}
	}
	return value
}

// then returns a drift that goes on with a change behind all of its own, if it is one.
func (d Drift) then(c Change) Drift {
	if !c.keeps(d.at(c.Minute)) {
		d.Changes = append(d.Changes, c)
	}
	return d
}

// fits reports whether a drift fits all proofs of a bridge.
func (w work) fits(bridge int, d Drift) bool {
	for i, p := range w.proofs(bridge) {
		if !has(w.spans[i], d.at(p.Minute)) {
			return false
		}
	}
	return true
}

// isValue reports whether a drift can have a value.
func isValue(n int) bool { return has(anything(), n) }

// isChange reports whether the numbers of a change are within their limits.
func isChange(c Change) bool { return within(c.Minute, 1, MaxMinute) && isValue(c.Value) }

// increasing reports whether each change is later than the one before it.
func increasing(changes []Change) bool {
	for i := 1; i < len(changes); i++ {
		if changes[i].Minute <= changes[i-1].Minute {
			return false
		}
	}
	return true
}

// has reports whether a number is in a span.
func has(s api.Span, n int) bool { return within(n, s.Lo, s.Hi) }
