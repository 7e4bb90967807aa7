package street

import (
	"slices"

	"laystall/api"
)

// Check returns the error of a town.
func Check(t Town) api.Errno {
	exists := below(t.Corners)
	leads := func(s Street) bool { return exists(s.From) && exists(s.To) && s.From != s.To }
	switch {
	case !within(t.Corners, 1, MaxCorners):
		return api.ErrRange
	case len(t.Streets) > MaxStreets:
		return api.ErrCount
	case !all(t.Streets, leads):
		return api.ErrNoSuch
	case !all(t.Streets, allowed):
		return api.ErrRange
	}
	return api.OK
}

// Mirror returns the mirrored town.
func Mirror(t Town) (Town, api.Errno) {
	if e := Check(t); e != api.OK {
		return Town{}, e
	}
	streets := slices.Clone(t.Streets)
	for i, s := range t.Streets {
		streets[i].From, streets[i].To = s.To, s.From
		streets[i].Shut = api.Span{Lo: MaxDay - 1 - s.Shut.Hi, Hi: MaxDay - 1 - s.Shut.Lo}
	}
	return Town{Corners: t.Corners, Streets: streets}, api.OK
}

// question returns the errors that questions about a town and a cart have in common.
func question(t Town, c Cart, corners, streets, minutes []int) api.Errno {
	if e := Check(t); e != api.OK {
		return e
	}
	switch {
	case !within(c.Wide, 1, MaxWide) || !within(c.Load, 0, MaxLoad):
		return api.ErrRange
	case !all(corners, below(t.Corners)) || !all(streets, below(len(t.Streets))):
		return api.ErrNoSuch
	case !all(minutes, isMinute):
		return api.ErrRange
	}
	return api.OK
}

// allowed reports whether the numbers of a street are within their limits.
func allowed(s Street) bool {
	return within(s.Minutes, 1, MaxMinutes) &&
		within(s.Up, 0, MaxUp) &&
		within(s.Wide, 1, MaxWide) &&
		within(s.Bears, 0, MaxLoad) &&
		within(s.Shut.Lo, 0, MaxDay-1) &&
		within(s.Shut.Hi, 0, MaxDay-1)
}

// without returns a town from which a street is missing.
func without(t Town, street int) Town {
	streets := slices.Clone(t.Streets)
	return Town{Corners: t.Corners, Streets: slices.Delete(streets, street, street+1)}
}

// all reports whether each element of a list is as asked.
func all[T any](list []T, is func(T) bool) bool {
	for _, x := range list {
		if !is(x) {
			return false
		}
	}
	return true
}

// twice reports whether a list has a number more than once.
func twice(list []int) bool {
	for i, n := range list {
		if slices.Contains(list[:i], n) {
			return true
		}
	}
	return false
}

// increasing reports whether each number of a list is greater than the one before it.
func increasing(list []int) bool {
	for i := 1; i < len(list); i++ {
		if list[i] <= list[i-1] {
			return false
		}
	}
	return true
}

// below tells which numbers are indices of so many things.
func below(count int) func(int) bool {
	return func(n int) bool { return within(n, 0, count-1) }
}

// isMinute reports whether a number is a minute of the day.
func isMinute(n int) bool { return within(n, 0, MaxDay) }

// within reports whether a number is from lo to hi.
func within(n, lo, hi int) bool { return n >= lo && n <= hi }
