package street

// table has a minute, or None, for each corner; corners that do not exist have None.
type table [MaxCorners]int

// nowhere returns the table of a cart that can be at no corner.
func nowhere() table {
	var t table
	for i := range t {
		t[i] = None
	}
	return t
}

// sweep goes through a town from a corner on: with the legs to the earliest minutes, or against them to the latest ones.
type sweep struct {
	job
	better func(one, other int) bool
	cross  func(leg Leg, minute int) int
	sides  func(leg Leg) (known, other int)
}

// forwards returns the sweep to the earliest minutes.
func (j job) forwards() sweep {
	return sweep{job: j, better: earlier, cross: j.arrive, sides: j.ends}
}

// backwards returns the sweep to the latest minutes.
func (j job) backwards() sweep {
	sides := func(leg Leg) (known, other int) {
		near, far := j.ends(leg)
		return far, near
	}
	return sweep{job: j, better: later, cross: j.leave, sides: sides}
}

// spread returns a table that is bettered by one leg more from each corner.
func (s sweep) spread(now table) table {
	next := now
	for corner := range s.Corners {
		for leg := range s.legs(corner, s.may) {
			known, other := s.sides(leg)
			minute := s.cross(leg, now[known])
			if s.better(minute, next[other]) {
				next[other] = minute
			}
		}
	}
	return next
}

// settle returns the table that no leg betters, from a corner and a minute on.
func (s sweep) settle(corner, minute int) table {
	now := nowhere()
	now[corner] = minute
	for {
		next := s.spread(now)
		if next == now {
			return now
		}
		now = next
	}
}

// earliest returns the earliest minute at each corner.
func (j job) earliest(from, at int) table { return j.forwards().settle(from, at) }

// latest returns the latest minute from which on the cart can be at a corner by a minute.
func (j job) latest(to, by int) table { return j.backwards().settle(to, by) }

// earlier reports whether one minute is earlier than another one; each is earlier than None.
func earlier(one, other int) bool { return one != other && least(one, other) == one }

// later reports whether one minute is later than another one; each is later than None.
func later(one, other int) bool { return one > other }

// least returns the least of several minutes, None if there are none.
func least(minutes ...int) int {
	found := None
	for _, m := range minutes {
		if m != None && (found == None || m < found) {
			found = m
		}
	}
	return found
}
