package lot

import "laystall/api"

// Check returns the error of a store.
func Check(s Store) api.Errno {
	switch {
	case !within(len(s.Pickings), 1, MaxPickings) || len(s.Grades) > MaxGrades:
		return api.ErrCount
	case !all(s.Pickings, isPicking) || !all(s.Grades, isGrade) || !within(s.Lots, 0, MaxLots):
		return api.ErrRange
	case !inOrder(s.Grades):
		return api.ErrOrder
	case !all(s.Pickings, func(p Picking) bool { return !isEmpty(p.span()) }):
		return api.ErrClash
	}
	return api.OK
}

// askPicking returns the errors of Check, and then that of a picking.
func askPicking(s Store, picking int) api.Errno {
	if e := Check(s); e != api.OK {
		return e
	}
	if !isIndex(s.Pickings, picking) {
		return api.ErrNoSuch
	}
	return api.OK
}

// askSample returns the errors of a picking, and then that of how many sacks more of it were opened.
func askSample(s Store, picking, many int) api.Errno {
	if e := askPicking(s, picking); e != api.OK {
		return e
	}
	if p := s.Pickings[picking]; !within(many, 0, p.Sacks-p.Opened) {
		return api.ErrRange
	}
	return api.OK
}

// askLot returns the errors of Check, and then those of a lot.
func askLot(s Store, lot []int) api.Errno {
	if e := Check(s); e != api.OK {
		return e
	}
	return lotError(s, lot)
}

// lotError returns the error of a lot of a store without errors.
func lotError(s Store, lot []int) api.Errno {
	if len(lot) != len(s.Pickings) {
		return api.ErrCount
	}
	for i, p := range s.Pickings {
		if !within(lot[i], 0, p.Sacks) {
			return api.ErrRange
		}
	}
	return api.OK
}

// askBuyer returns the buyer of a lot, or the errors of the lot and of the buyer's sample.
func askBuyer(s Store, lot []int, opened, found int) (buyer, api.Errno) {
	if e := askLot(s, lot); e != api.OK {
		return buyer{}, e
	}
	b := buyer{work: begin(s), lot: mixOf(lot), opened: opened, found: found}
	switch {
	case !within(opened, 0, b.lot.size()) || !within(found, 0, opened):
		return buyer{}, api.ErrRange
	case isEmpty(b.left()):
		return buyer{}, api.ErrClash
	}
	return b, api.OK
}

// isPicking reports whether the numbers of a picking are within their limits.
func isPicking(p Picking) bool {
	return within(p.Sacks, 0, MaxSacks) && within(p.Worst, 0, p.Sacks) && within(p.Opened, 0, p.Sacks) && within(p.Found, 0, p.Opened)
}

// isGrade reports whether the numbers of a grade are within their limits.
func isGrade(g Grade) bool { return within(g.Foul, 0, 100) && within(g.Price, 1, MaxPrice) }

// isPrice reports whether a number is the price of a picking.
func isPrice(n int) bool { return within(n, 0, MaxPrice) }

// inOrder reports whether each grade may have more foul sacks, and costs less, than the one before it.
func inOrder(grades []Grade) bool {
	for i := 1; i < len(grades); i++ {
		if grades[i].Foul <= grades[i-1].Foul || grades[i].Price >= grades[i-1].Price {
			return false
		}
	}
	return true
}

// isEmpty reports whether a span has no number.
func isEmpty(s api.Span) bool { return s.Lo > s.Hi }

// isIndex reports whether a list has an element with such an index.
func isIndex[T any](list []T, n int) bool { return within(n, 0, len(list)-1) }

// all reports whether each element of a list is as asked.
func all[T any](list []T, is func(T) bool) bool {
	for _, x := range list {
		if !is(x) {
			return false
		}
	}
	return true
}

// within reports whether a number is from lo to hi.
func within(n, lo, hi int) bool { return n >= lo && n <= hi }
