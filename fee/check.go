package fee

import (
	"slices"

	"laystall/api"
)

// CheckTariff returns the error of a tariff.
func CheckTariff(t []Step) api.Errno {
	switch {
	case !within(len(t), 1, MaxSteps):
		return api.ErrCount
	case !all(t, Step.isAllowed):
		return api.ErrRange
	case !rises(t):
		return api.ErrOrder
	}
	return api.OK
}

// Check returns the error of a bill.
func Check(b Bill) api.Errno {
	switch {
	case !within(b.Pence, 0, MaxPence):
		return api.ErrRange
	case !within(len(b.Houses), 1, MaxHouses):
		return api.ErrCount
	case !all(b.Houses, House.isAllowed):
		return api.ErrRange
	}
	return api.OK
}

// CheckAccount returns the error of an account.
func CheckAccount(a Account) api.Errno {
	switch {
	case len(a.Charges) > MaxEntries || len(a.Payments) > MaxEntries:
		return api.ErrCount
	case !within(a.Grace, 0, MaxGrace) || !within(a.Late, 0, 100):
		return api.ErrRange
	case !all(a.Charges, Entry.isAllowed) || !all(a.Payments, Entry.isAllowed):
		return api.ErrRange
	case !inOrder(a.Charges) || !inOrder(a.Payments):
		return api.ErrOrder
	}
	return api.OK
}

// askValues returns the errors of Check, and then that of a bill without a value.
func askValues(b Bill) api.Errno {
	if e := Check(b); e != api.OK {
		return e
	}
	if b.values() == 0 {
		return api.ErrNone
	}
	return api.OK
}

// askHouse returns the errors of Check, and then that of a house that does not exist.
func askHouse(b Bill, house int) api.Errno {
	if e := Check(b); e != api.OK {
		return e
	}
	if !within(house, 0, len(b.Houses)-1) {
		return api.ErrNoSuch
	}
	return api.OK
}

// askShares returns the errors of Check, and then those of shares.
func askShares(b Bill, shares []int) api.Errno {
	if e := Check(b); e != api.OK {
		return e
	}
	switch {
	case len(shares) != len(b.Houses):
		return api.ErrCount
	case !all(shares, func(n int) bool { return within(n, 0, MaxPence) }):
		return api.ErrRange
	case sum(shares...) != b.Pence:
		return api.ErrWrong
	}
	return api.OK
}

// askDay returns the errors of CheckAccount, and then that of a day.
func askDay(a Account, day int) api.Errno {
	if e := CheckAccount(a); e != api.OK {
		return e
	}
	if !within(day, 0, MaxDay) {
		return api.ErrRange
	}
	return api.OK
}

// isAllowed reports whether the numbers of a step are within their limits.
func (s Step) isAllowed() bool {
	return within(s.Upto, 1, MaxPounds) && within(s.Pence, 0, MaxRate)
}

// isAllowed reports whether the numbers of a house are within their limits.
func (h House) isAllowed() bool {
	return within(h.Value, 0, MaxValue) && within(h.Most, 0, MaxPence) && within(h.Least, 0, h.Most)
}

// isAllowed reports whether the numbers of an entry are within their limits.
func (e Entry) isAllowed() bool {
	return within(e.Day, 0, MaxDay) && within(e.Pence, 1, MaxEntry)
}

// rises reports whether each step goes further than the one before it.
func rises(t []Step) bool {
	for i := 1; i < len(t); i++ {
		if t[i].Upto <= t[i-1].Upto {
			return false
		}
	}
	return true
}

// inOrder reports whether no entry is of an earlier day than the one before it.
func inOrder(list []Entry) bool {
	return slices.IsSorted(each(list, Entry.day))
}

// all reports whether each element of a list is as asked.
func all[T any](list []T, is func(T) bool) bool {
	for _, x := range list {
		if !is(x) {
			return false
		}
	}
	return true
}

// those returns the elements of a list that are as asked.
func those[T any](list []T, is func(T) bool) []T {
	var chosen []T
	for _, x := range list {
		if is(x) {
			chosen = append(chosen, x)
		}
	}
	return chosen
}

// indices returns the index of each element of a list.
func indices[T any](list []T) []int {
	var numbers []int
	for i := range list {
		numbers = append(numbers, i)
	}
	return numbers
}

// each returns a number of each element of a list.
func each[T any](list []T, number func(T) int) []int {
	var numbers []int
	for _, x := range list {
		numbers = append(numbers, number(x))
	}
	return numbers
}

// within reports whether a number is from lo to hi.
func within(n, lo, hi int) bool { return n >= lo && n <= hi }

// sum adds several numbers.
func sum(numbers ...int) int {
	all := 0
	for _, n := range numbers {
		all += n
	}
	return all
}
