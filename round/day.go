package round

import (
	"slices"

	"laystall/api"
	"laystall/street"
)

// Check returns the error of a day.
func Check(d Day) api.Errno {
	if e := street.Check(d.Town); e != api.OK {
		return e
	}
	exists := below(d.Town.Corners)
	switch {
	case !exists(d.Yard) || !exists(d.Tip) || !all(d.Bins, func(b Bin) bool { return exists(b.Corner) }):
		return api.ErrNoSuch
	case len(d.Bins) > MaxBins || len(d.Carts) > MaxCarts:
		return api.ErrCount
	case !all(d.Bins, isBin) || !all(d.Carts, isCart):
		return api.ErrRange
	case !all(d.Bins, func(b Bin) bool { return increasing(b.Days) }):
		return api.ErrOrder
	}
	return api.OK
}

// askRound returns the errors of a round.
func askRound(d Day, cart int, round []int) api.Errno {
	if e := Check(d); e != api.OK {
		return e
	}
	switch {
	case !below(len(d.Carts))(cart) || !all(round, below(len(d.Bins))):
		return api.ErrNoSuch
	case twice(round):
		return api.ErrTwice
	}
	return api.OK
}

// askRun returns the errors of a round, and then those of contents.
func askRun(d Day, cart int, round, contents []int) api.Errno {
	if e := askRound(d, cart, round); e != api.OK {
		return e
	}
	if len(contents) != len(d.Bins) {
		return api.ErrCount
	}
	for bin, pounds := range contents {
		if holds := d.Bins[bin].Holds; !within(pounds, holds.Lo, holds.Hi) {
			return api.ErrRange
		}
	}
	return api.OK
}

// askBins returns the errors of bins, and of the carts that are asked about.
func askBins(d Day, carts, bins []int) api.Errno {
	if e := Check(d); e != api.OK {
		return e
	}
	switch {
	case !all(carts, below(len(d.Carts))) || !all(bins, below(len(d.Bins))):
		return api.ErrNoSuch
	case !increasing(bins):
		return api.ErrOrder
	}
	return api.OK
}

// due returns the bins that are due on a day of the week.
func (d Day) due(weekday int) []int {
	var bins []int
	for bin, b := range d.Bins {
		if slices.Contains(b.Days, weekday) {
			bins = append(bins, bin)
		}
	}
	return bins
}

// isBin reports whether the numbers of a bin are within their limits.
func isBin(b Bin) bool {
	return within(b.Minutes, 0, MaxEmpty) &&
		0 <= b.Holds.Lo && b.Holds.Lo <= b.Holds.Hi && b.Holds.Hi <= MaxBin &&
		all(b.Days, isWeekday)
}

// isCart reports whether the numbers of a cart are within their limits.
func isCart(c Cart) bool {
	return within(c.Wide, 1, street.MaxWide) &&
		within(c.Holds, 0, MaxHolds) &&
		within(c.Lifts, 0, MaxLifts) &&
		isMinute(c.Start) && isMinute(c.Until)
}

// isMinute reports whether a number is a minute of the day.
func isMinute(n int) bool { return within(n, 0, street.MaxDay) }

// isWeekday reports whether a number is a day of the week.
func isWeekday(n int) bool { return within(n, 0, Week-1) }

// isWeight reports whether a number is the weight of a bin.
func isWeight(n int) bool { return within(n, 0, MaxWeight) }

// all reports whether each element of a list is as asked.
func all[T any](list []T, is func(T) bool) bool {
	for _, x := range list {
		if !is(x) {
			return false
		}
	}
	return true
}

// indices returns the index of each element of a list.
func indices[T any](list []T) []int {
	var numbers []int
	for i := range list {
		numbers = append(numbers, i)
	}
	return numbers
}

// of returns the numbers of some elements.
func of(numbers, elements []int) []int {
	var list []int
	for _, i := range elements {
		list = append(list, numbers[i])
	}
	return list
}

// twice reports whether a list has a number more than once.
func twice(list []int) bool {
	for i, n := range list {
		if slices.Contains(list[:i], n) {
			return true
		}
	}
	return false
}

// increasing reports whether each number of a list is greater than the one before it.
func increasing(list []int) bool {
	for i := 1; i < len(list); i++ {
		if list[i] <= list[i-1] {
			return false
		}
	}
	return true
}

// below tells which numbers are indices of so many things.
func below(count int) func(int) bool {
	return func(n int) bool { return within(n, 0, count-1) }
}

// within reports whether a number is from lo to hi.
func within(n, lo, hi int) bool { return n >= lo && n <= hi }

// sum adds several numbers.
func sum(numbers ...int) int {
	total := 0
	for _, n := range numbers {
		total += n
	}
	return total
}
