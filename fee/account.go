package fee

import "slices"

// paid returns the day on which a charge is paid, or None.
func (a Account) paid(charge int) int {
	paid := None
	missing := pence(a.Charges[:charge+1])
search:
	for day := range MaxDay + 1 {
		for _, p := range a.Payments {
			if p.Day == day {
				missing -= p.Pence
			}
			if missing <= 0 {
				paid = max(day, a.Charges[charge].Day)
				break search
			}
		}
	}
	return paid
}

// until returns the last day on which a charge can be paid that is not late.
func (a Account) until(charge int) int { return a.Charges[charge].Day + a.Grace }

// isLate reports whether a charge is late on a day.
func (a Account) isLate(charge, day int) bool {
	until, paid := a.until(charge), a.paid(charge)
	return day > until && (paid == None || paid > until)
}

// rests returns by charges the rest of each of those up to a day, on this one.
func (a Account) rests(day int) map[int]int {
	rests := map[int]int{}
	missing := -pence(upTo(a.Payments, day))
	for charge, c := range upTo(a.Charges, day) {
		missing += c.Pence
		rests[charge] = min(max(missing, 0), c.Pence)
	}
	return rests
}

// restList returns the rest of each charge on a day, 0 for those of later days.
func (a Account) restList(day int) []int {
	rests := a.rests(day)
	list := make([]int, len(a.Charges))
	for charge := range list {
		list[charge] = rests[charge]
	}
	return list
}

// surplus returns how much more was paid up to a day than was charged up to it.
func (a Account) surplus(day int) int {
	return pence(upTo(a.Payments, day)) - pence(upTo(a.Charges, day))
}

// upTo returns the entries of days up to one.
func upTo(list []Entry, day int) []Entry {
	later, _ := slices.BinarySearch(each(list, Entry.day), day+1)
	return list[:later]
}

// pence returns those of several entries together.
func pence(list []Entry) int { return sum(each(list, Entry.pence)...) }

// The numbers of an entry.
func (e Entry) day() int   { return e.Day }
func (e Entry) pence() int { return e.Pence }
