package fee

import "sort"

// cost returns what pounds cost.
func cost(t []Step, pounds int) int {
	var hundredths []int
	below := 0
	for i, s := range t {
		upto := min(s.Upto, pounds)
		if i == len(t)-1 {
			upto = pounds
		}
		hundredths = append(hundredths, (upto-below)*s.Pence)
		below = upto
	}
	return whole(sum(hundredths...))
}

// pounds returns the greatest number of pounds that cost at most so many pence.
func pounds(t []Step, pence int) int {
	// More pounds never cost less, so that all numbers up to this one will do, and none above it.
	return sort.Search(MaxPounds, func(n int) bool { return cost(t, n+1) > pence })
}

// whole returns hundredths of pence as whole pence, rounded up.
func whole(hundredths int) int { return (hundredths + 99) / 100 }
