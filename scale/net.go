package scale

import "laystall/api"

// limit returns a book at work in which drifts with at most so many changes fit; the errors of Check, ErrRange and ErrClash.
func limit(b Book, most int) (limited, api.Errno) {
	if e := Check(b); e != api.OK {
		return limited{}, e
	}
	if !isMost(most) {
		return limited{}, api.ErrRange
	}
	l := limited{work: begin(b), most: most}
	for bridge := range Bridges {
		if !l.right(l.line(bridge)) {
			return limited{}, api.ErrClash
		}
	}
	return l, api.OK
}

// asks returns what trips ask of a bridge: how many times the drift of each minute is added to the sum of their nets.
func asks(trips []Trip, bridge int) map[int]int {
	times := map[int]int{}
	for _, t := range trips {
		if t.In.Bridge == bridge {
			times[t.In.Minute]--
		}
		if t.Out.Bridge == bridge {
			times[t.Out.Minute]++
		}
	}
	return times
}

// plain returns the span of the net of a trip, if its bridges show nothing too much but for their errors.
func (w work) plain(t Trip) api.Span {
	net, off := t.In.Reads-t.Out.Reads, w.Errors[t.In.Bridge]+w.Errors[t.Out.Bridge]
	return api.Span{Lo: net - off - t.Mud, Hi: net + off}
}

// nets returns the span of the sum of the nets of some trips.
func (l limited) nets(trips ...Trip) api.Span {
	var sum api.Span
	for _, t := range trips {
		sum = joined(sum, l.plain(t))
	}
	for bridge := range Bridges {
		span, _ := l.span(bridge, asks(trips, bridge))
		sum = joined(sum, span)
	}
	return sum
}

// left returns what is left of the net of a trip if a bridge is proved once more, at one of its slips.
func (l limited) left(t Trip, s Slip) int {
	times := asks([]Trip{t}, s.Bridge)
	net := l.nets(t)
	before, _ := l.span(s.Bridge, times)
	var widths []int
	for i := range values {
		told := limited{work: l.told(s, i-MaxDrift), most: l.most}
		if span, fits := told.span(s.Bridge, times); fits {
			widths = append(widths, width(span))
		}
	}
	// All but the drift of this bridge stays as wide as it is.
	return width(net) - width(before) + greatest(0, widths...)
}

// width returns that of a span.
func width(s api.Span) int { return s.Hi - s.Lo }

// joined returns the sums of a number of each of two spans.
func joined(a, b api.Span) api.Span { return api.Span{Lo: a.Lo + b.Lo, Hi: a.Hi + b.Hi} }
