package lot

import "laystall/api"

// buyer is one who has opened some sacks of a lot of a store at work, and found some of these foul.
type buyer struct {
	work
	lot           mix
	opened, found int
}

// left returns how many foul sacks the lot can have; an empty span if what the buyer found cannot be.
func (b buyer) left() api.Span {
	s, clean := b.span(b.lot), b.opened-b.found
	return api.Span{Lo: max(s.Lo, b.found), Hi: min(s.Hi, b.lot.size()-clean)}
}

// knowing returns the buyer who knows how many sacks of a picking are foul.
func (b buyer) knowing(picking, foul int) buyer {
	b.work = begin(b.with(picking, b.Pickings[picking].known(foul)))
	return b
}

// tells returns how many sacks of a picking can be foul.
func (b buyer) tells(picking int) api.Span {
	s := b.Pickings[picking].span()
	told := api.Span{Lo: s.Hi, Hi: s.Lo}
	for more := range s.Hi - s.Lo + 1 {
		foul := s.Lo + more
		if !isEmpty(b.knowing(picking, foul).left()) {
			told = api.Span{Lo: min(told.Lo, foul), Hi: max(told.Hi, foul)}
		}
	}
	return told
}
