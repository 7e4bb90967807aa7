package tip

import "laystall/api"

// Check returns the error of a tip.
func Check(t Tip) api.Errno {
	switch {
	case !t.hasCounts():
		return api.ErrCount
	case !t.hasRanges():
		return api.ErrRange
	case !all(t.Layers, func(l Layer) bool { return t.hasStrip(l.Strip) }):
		return api.ErrNoSuch
	case !inOrder(t.Layers, Layer.day):
		return api.ErrOrder
	case !all(left(t.Settles), func(s api.Span) bool { return s.Lo <= s.Hi }):
		return api.ErrClash
	}
	return api.OK
}

// askDay returns the errors of Check, and then that of a day or an age.
func askDay(t Tip, day int) api.Errno {
	if e := Check(t); e != api.OK {
		return e
	}
	if !within(day, 0, MaxDay) {
		return api.ErrRange
	}
	return api.OK
}

// askPlace returns the errors of Check, and then those of a strip and a day.
func askPlace(t Tip, strip, day int) api.Errno {
	if e := Check(t); e != api.OK {
		return e
	}
	switch {
	case !t.hasStrip(strip):
		return api.ErrNoSuch
	case !within(day, 0, MaxDay):
		return api.ErrRange
	}
	return api.OK
}

// askLoads returns a tip at work on which loads are to be laid, or the errors of Check, and then those of the loads.
func askLoads(t Tip, loads []Load) (work, api.Errno) {
	if e := Check(t); e != api.OK {
		return work{}, e
	}
	switch {
	case len(loads) > MaxLoads:
		return work{}, api.ErrCount
	case !all(loads, isLoad):
		return work{}, api.ErrRange
	case !inOrder(loads, Load.day):
		return work{}, api.ErrOrder
	}
	return begin(t), api.OK
}

// askFill returns the strips on which as many of the first loads as can be are laid, or the errors of the loads and that of lines that are not kept without them.
func askFill(t Tip, loads []Load) ([]int, api.Errno) {
	w, e := askLoads(t, loads)
	if e != api.OK {
		return nil, e
	}
	if !w.kept() {
		return nil, api.ErrNone
	}
	return w.fill(loads), api.OK
}

// hasCounts reports whether there are as many strips, layers and spans as are allowed.
func (t Tip) hasCounts() bool {
	return within(len(t.Strips), 1, MaxStrips) && len(t.Layers) <= MaxLayers && within(len(t.Settles), 1, MaxAges) && within(len(t.Gives), 1, MaxAges)
}

// hasRanges reports whether all numbers of a tip are within their limits.
func (t Tip) hasRanges() bool {
	return all(t.Strips, Strip.isAllowed) && within(t.Soil, 0, MaxSoil) && within(t.Open, 0, MaxOpen) && all(t.Layers, Layer.isAllowed) &&
		all(t.Settles, func(s api.Span) bool { return isSpan(s, 100) }) && all(t.Gives, func(s api.Span) bool { return isSpan(s, MaxGas) })
}

// isAllowed reports whether the numbers of a strip are within their limits.
func (s Strip) isAllowed() bool {
	return within(s.Area, 1, MaxArea) && within(s.Base, 0, MaxLevel) && within(s.Line, 0, MaxLevel)
}

// isAllowed reports whether the numbers of a layer, but for its strip, are within their limits.
func (l Layer) isAllowed() bool {
	var weighs bool
	switch m := l.matter().(type) {
	case waste:
		weighs = within(m.Pounds, 1, MaxPounds)
	case cover:
		weighs = m.Pounds == 0
	}
	return weighs && within(l.Day, 0, MaxDay)
}

// isLoad reports whether the numbers of a load are within their limits.
func isLoad(l Load) bool { return within(l.Day, 0, MaxDay) && within(l.Pounds, 1, MaxPounds) }

// isSpan reports whether a span has numbers, all of them from 0 to most.
func isSpan(s api.Span, most int) bool { return 0 <= s.Lo && s.Lo <= s.Hi && s.Hi <= most }

// day is that of a layer.
func (l Layer) day() int { return l.Day }

// day is that of a load.
func (l Load) day() int { return l.Day }

// hasStrip reports whether there is a strip with such an index.
func (t Tip) hasStrip(n int) bool { return within(n, 0, len(t.Strips)-1) }

// hasLayer reports whether there is a layer with such an index.
func (t Tip) hasLayer(n int) bool { return within(n, 0, len(t.Layers)-1) }

// inOrder reports whether no element of a list has an earlier day than the one before it.
func inOrder[T any](list []T, day func(T) int) bool {
	for i := 1; i < len(list); i++ {
		if day(list[i]) < day(list[i-1]) {
			return false
		}
	}
	return true
}

// all reports whether each element of a list is as asked.
func all[T any](list []T, is func(T) bool) bool {
	for _, x := range list {
		if !is(x) {
			return false
		}
	}
	return true
}

// within reports whether a number is from lo to hi.
func within(n, lo, hi int) bool { return n >= lo && n <= hi }
