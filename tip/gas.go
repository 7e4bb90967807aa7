package tip

// gas returns how many cubic feet the waste gives on a day, at an end of what it can.
func (t Tip) gas(day int, e end) int {
	feet := 0
	for _, l := range t.Layers {
		if !l.Cover && l.Day <= day {
			feet += dividedUp(l.Pounds*e.of(at(t.Gives, day-l.Day)), 100)
		}
	}
	return feet
}

// quiet returns the first day from which on the waste surely gives at most so much; MaxDay + 1 if there is none.
func (t Tip) quiet(most int) int {
	first := MaxDay + 1
	for first > 0 && t.gas(first-1, high()) <= most {
		first--
	}
	return first
}
