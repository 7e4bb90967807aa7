package lot

import (
	"slices"

	"laystall/api"
)

// end tells which one of a span counts.
type end struct{ of func(api.Span) int }

// least is the end at which lots are at their best.
func least() end { return end{of: func(s api.Span) int { return s.Lo }} }

// greatest is the end at which lots are at their worst.
func greatest() end { return end{of: func(s api.Span) int { return s.Hi }} }

// span returns how many sacks of a picking can be foul.
func (p Picking) span() api.Span {
	return api.Span{Lo: p.Found, Hi: min(p.Worst, p.Sacks-p.Opened+p.Found)}
}

// inside returns how many foul sacks can be among so many sacks of a picking.
func (p Picking) inside(sacks int) api.Span {
	s, outside := p.span(), p.Sacks-sacks
	return api.Span{Lo: max(s.Lo-outside, 0), Hi: min(s.Hi, sacks)}
}

// isTruth reports whether so many sacks of a picking can be foul, and so many of these among some of its sacks.
func (p Picking) isTruth(sacks, foul, inside int) bool {
	s, outside := p.span(), p.Sacks-sacks
	return within(foul, s.Lo, s.Hi) && within(inside, 0, sacks) && within(foul-inside, 0, outside)
}

// known returns a picking of as many sacks all of which were opened, so that just so many are foul.
func (p Picking) known(foul int) Picking {
	return Picking{Sacks: p.Sacks, Worst: p.Sacks, Opened: p.Sacks, Found: foul}
}

// with returns a store with another picking in place of one.
func (s Store) with(picking int, p Picking) Store {
	s.Pickings, s.Grades = slices.Clone(s.Pickings), slices.Clone(s.Grades)
	s.Pickings[picking] = p
	return s
}

// opened returns the store in which some sacks more of a picking were opened, and some of these found foul.
func (s Store) opened(picking, many, found int) Store {
	p := s.Pickings[picking]
	p.Opened += many
	p.Found += found
	return s.with(picking, p)
}
