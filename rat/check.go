package rat

import "laystall/api"

// Check returns the error of a colony.
func Check(c Colony) api.Errno {
	switch {
	case !c.hasCounts():
		return api.ErrCount
	case !c.hasRanges():
		return api.ErrRange
	case !all(c.Runs, func(r Run) bool { return c.hasHouse(r.A) && c.hasHouse(r.B) }):
		return api.ErrNoSuch
	case !c.joinsOnce():
		return api.ErrTwice
	}
	return api.OK
}

// askSpots returns the errors of Check, and then that of spots that do not exist.
func askSpots(c Colony, spots ...spot) api.Errno {
	if e := Check(c); e != api.OK {
		return e
	}
	if !all(spots, c.hasSpot) {
		return api.ErrNoSuch
	}
	return api.OK
}

// limited is a number that is to be from 0 to another one.
type limited struct{ number, most int }

// allowed reports whether a number is within its limits.
func (l limited) allowed() bool { return within(l.number, 0, l.most) }

// settle puts a colony to work that has a truth, or returns the errors of Check, then that of numbers beyond their limits, and then that of a colony that clashes.
func settle(c Colony, numbers ...limited) (work, api.Errno) {
	if e := Check(c); e != api.OK {
		return work{}, e
	}
	if !all(numbers, limited.allowed) {
		return work{}, api.ErrRange
	}
	w := begin(c)
	if w.homeless(c.Rooms) > 0 {
		return work{}, api.ErrClash
	}
	return w, api.OK
}

// hasCounts reports whether there are as many houses, runs and nights as are allowed, and as many houses in each list.
func (c Colony) hasCounts() bool {
	return within(len(c.Rooms), 1, MaxHouses) && len(c.Runs) <= MaxRuns && len(c.Nights) <= MaxNights && c.hasEach(c.Traps) && all(c.Nights, c.hasEach)
}

// hasRanges reports whether all rooms, traps and what was caught are within their limits.
func (c Colony) hasRanges() bool {
	return all(c.Rooms, func(n int) bool { return within(n, 0, MaxRoom) }) &&
		all(c.Traps, func(n int) bool { return within(n, 0, MaxTraps) }) &&
		all(c.Nights, c.hasTraps)
}

// hasTraps reports whether there were traps for all that were caught in a night.
func (c Colony) hasTraps(caught []int) bool {
	for house, n := range caught {
		if !within(n, 0, c.Traps[house]) {
			return false
		}
	}
	return true
}

// joinsOnce reports whether each run joins two houses, and no two of them the same two.
func (c Colony) joinsOnce() bool {
	for i, r := range c.Runs {
		if r.A == r.B || !all(c.Runs[:i], func(other Run) bool { return other != r && other != r.back() }) {
			return false
		}
	}
	return true
}

// back returns a run, told from its other end.
func (r Run) back() Run { return Run{A: r.B, B: r.A} }

// hasHouse reports whether there is a house with such an index.
func (c Colony) hasHouse(n int) bool { return within(n, 0, len(c.Rooms)-1) }

// hasSpot reports whether there is such a house, and such a night.
func (c Colony) hasSpot(s spot) bool {
	return c.hasHouse(s.house) && within(s.night, 0, len(c.Nights)-1)
}

// hasEach reports whether a list has a number for each house.
func (c Colony) hasEach(list []int) bool { return len(list) == len(c.Rooms) }

// increasing reports whether each number of a list is greater than the one before it.
func increasing(list []int) bool {
	for i := 1; i < len(list); i++ {
		if list[i] <= list[i-1] {
			return false
		}
	}
	return true
}

// all reports whether each element of a list is as asked.
func all[T any](list []T, is func(T) bool) bool {
	for _, x := range list {
		if !is(x) {
			return false
		}
	}
	return true
}

// within reports whether a number is from lo to hi.
func within(n, lo, hi int) bool { return n >= lo && n <= hi }
