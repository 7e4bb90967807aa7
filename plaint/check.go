package plaint

import (
	"laystall/api"
	"laystall/street"
)

// Check returns the error of a case.
func Check(c Case) api.Errno {
	if e := street.Check(c.Town); e != api.OK {
		return e
	}
	switch {
	case len(c.Town.Streets) > MaxStreets || len(c.Words) > MaxWords:
		return api.ErrCount
	case !c.hasRanges() || !all(c.Words, Word.hasSpan):
		return api.ErrRange
	case !below(c.Town.Corners)(c.From) || !all(c.Words, c.hasPlace):
		return api.ErrNoSuch
	}
	return api.OK
}

// askStreet returns the errors of Check, and then that of a street that does not exist.
func askStreet(c Case, x int) api.Errno {
	if e := Check(c); e != api.OK {
		return e
	}
	if !c.hasStreet(x) {
		return api.ErrNoSuch
	}
	return api.OK
}

// askDrive puts a case to work and returns all moves of a drive, or the errors of Check and of the drive.
func askDrive(c Case, drive []Step) (work, []move, api.Errno) {
	if e := Check(c); e != api.OK {
		return work{}, nil, e
	}
	switch {
	case len(drive) > MaxSteps:
		return work{}, nil, api.ErrCount
	case !all(drive, func(s Step) bool { return c.hasStreet(s.Street) }):
		return work{}, nil, api.ErrNoSuch
	}
	w := begin(c)
	moves, can := w.follow(drive)
	if !can {
		return work{}, nil, api.ErrWrong
	}
	return w, moves, api.OK
}

// hasRanges reports whether the numbers of a case, without those of its words, are within their limits.
func (c Case) hasRanges() bool {
	return within(c.Cart.Wide, 1, street.MaxWide) &&
		within(c.Cart.Load, 0, street.MaxLoad) &&
		within(c.Until, 0, MaxUntil) &&
		within(c.Lies, 0, MaxWords)
}

// hasSpan reports whether the minutes of a word are within their limits.
func (w Word) hasSpan() bool { return 0 <= w.Lo && w.Lo <= w.Hi && w.Hi <= MaxUntil }

// hasPlace reports whether there is such a kind of words, and such a corner or street.
func (c Case) hasPlace(w Word) bool {
	switch w.Kind {
	case Seen:
		return below(c.Town.Corners)(w.Place)
	case Passed, Away:
		return c.hasStreet(w.Place)
	}
	return false
}

// hasStreet reports whether there is a street with such an index.
func (c Case) hasStreet(n int) bool { return below(len(c.Town.Streets))(n) }

// increasing reports whether each number of a list is greater than the one before it.
func increasing(list []int) bool {
	for i := 1; i < len(list); i++ {
		if list[i] <= list[i-1] {
			return false
		}
	}
	return true
}

// all reports whether each element of a list is as asked.
func all[T any](list []T, is func(T) bool) bool {
	for _, x := range list {
		if !is(x) {
			return false
		}
	}
	return true
}

// indices returns the index of each element of a list.
func indices[T any](list []T) []int {
	var numbers []int
	for i := range list {
		numbers = append(numbers, i)
	}
	return numbers
}

// below tells which numbers are indices of so many things.
func below(count int) func(int) bool {
	return func(n int) bool { return within(n, 0, count-1) }
}

// within reports whether a number is from lo to hi.
func within(n, lo, hi int) bool { return n >= lo && n <= hi }
