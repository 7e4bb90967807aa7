package plaint

import (
	"laystall/api"
	"laystall/street"
)

// arrival is the move that led to a state, and the state before it.
type arrival struct {
	by     *move
	before state
}

// spot is a corner at a minute: the states to which drives come there, in their order, and how.
type spot struct {
	states []state
	came   map[state]arrival
}

// end is where the cart is at Until, and in which state.
type end struct {
	corner int
	state
}

// hunt is a case at work of which all drives were gone through, and how those end that are asked about.
type hunt struct {
	work
	spots [MaxUntil + 1][street.MaxCorners]spot
	ends  []end
}

// hunt goes through all drives, minute by minute.
func (w work) hunt() *hunt {
	h := &hunt{work: w}
	h.come([]state{w.untold()}, wait(w.From, 0))
	for minute := range w.Until {
		for corner := range w.Town.Corners {
			h.leave(corner, minute)
		}
	}
	h.gather()
	return h
}

// fitting goes through all drives, and takes out those that do not fit: ErrClash if no drive is left.
func (w work) fitting() (*hunt, api.Errno) {
	h := w.hunt()
	h.keep(h.fits)
	if len(h.ends) == 0 {
		return nil, api.ErrClash
	}
	return h, api.OK
}

// leave takes all drives that are at a corner at a minute one move further.
func (h *hunt) leave(corner, minute int) {
	states := h.spots[minute][corner].states
	if len(states) == 0 {
		return
	}
	h.come(states, wait(corner, minute+1))
	for m := range h.steps(corner, minute) {
		h.come(states, m)
	}
}

// come brings drives to the end of a move.
func (h *hunt) come(states []state, m move) {
	to := &h.spots[m.end][m.to]
	if to.came == nil {
		to.came = map[state]arrival{}
	}
	words := h.turned(m)
	for _, before := range states {
		s := h.turn(before, words)
		if _, known := to.came[s]; !known {
			to.came[s] = arrival{by: &m, before: before}
			to.states = append(to.states, s)
		}
	}
}

// keep takes out how all other drives end. Of their states before that none is taken out: drives that are left may have come through them, too.
func (h *hunt) keep(is func(state) bool) {
	for _, e := range h.ends {
		if !is(e.state) {
			delete(h.spots[h.Until][e.corner].came, e.state)
		}
	}
	h.gather()
}

// gather lists how the drives end that were not taken out.
func (h *hunt) gather() {
	h.ends = nil
	for corner := range h.Town.Corners {
		last := h.spots[h.Until][corner]
		for _, s := range last.states {
			if _, left := last.came[s]; left {
				h.ends = append(h.ends, end{corner: corner, state: s})
			}
		}
	}
}

// trace returns the steps of a drive that ends so.
func (h *hunt) trace(last end) []Step {
	var lead func(corner, minute int, s state) []Step
	lead = func(corner, minute int, s state) []Step {
		if minute == 0 {
			return nil
		}
		a := h.spots[minute][corner].came[s]
		steps := lead(a.by.from, a.by.Start, a.before)
		if a.by.waits {
			return steps
		}
		return append(steps, a.by.Step)
	}
	return lead(last.corner, h.Until, last.state)
}
