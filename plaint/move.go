package plaint

import (
	"iter"

	"laystall/api"
	"laystall/street"
)

// move is what a cart does next: a step, or to wait for the minute from its start on.
type move struct {
	Step
	waits         bool
	from, to, end int
}

// wait returns the move by which a cart waits at a corner until a minute.
func wait(corner, end int) move {
	return move{Step: Step{Start: end - 1}, waits: true, from: corner, to: corner, end: end}
}

// step returns the move of a step, and whether the cart can take it.
func (w work) step(s Step) (move, bool) {
	if !within(s.Start, 0, w.Until) {
		return move{}, false
	}
	m := w.drives(s)
	then, e := street.Pass(w.Town, w.Cart, street.Leg{Street: s.Street, Back: s.Back}, s.Start)
	// A cart that would have to wait before the street is at its end later than the step says.
	return m, e == api.OK && then == m.end && then <= w.Until
}

// drives returns the move of a step, as if no law kept the cart from it.
func (w work) drives(s Step) move {
	x := w.Town.Streets[s.Street]
	if s.Back {
		return move{Step: s, from: x.To, to: x.From, end: s.Start + x.Minutes}
	}
	return move{Step: s, from: x.From, to: x.To, end: s.Start + x.Minutes + x.Up*w.Cart.Load}
}

// steps yields the steps that the cart can take from a corner at a minute.
func (w work) steps(corner, minute int) iter.Seq[move] {
	return func(yield func(move) bool) {
		for x := range w.Town.Streets {
			for _, s := range [...]Step{{Street: x, Start: minute}, {Street: x, Back: true, Start: minute}} {
				if w.drives(s).from != corner {
					continue
				}
				if m, can := w.step(s); can && !yield(m) {
					return
				}
			}
		}
	}
}

// follow returns all moves of a drive, those by which the cart waits among them, and whether it is a drive.
func (w work) follow(drive []Step) ([]move, bool) {
	here := wait(w.From, 0)
	moves := []move{here}
	waitUntil := func(minute int) {
		for here.end < minute {
			here = wait(here.to, here.end+1)
			moves = append(moves, here)
		}
	}
	for _, s := range drive {
		m, can := w.step(s)
		if !can || m.from != here.to || s.Start < here.end {
			return nil, false
		}
		waitUntil(s.Start)
		here = m
		moves = append(moves, m)
	}
	waitUntil(w.Until)
	return moves, true
}
