package fee

import (
	"cmp"
	"iter"
	"slices"

	"laystall/api"
)

// bid is of a house, for one of the pence that it pays: the first one, the second one, and so on.
type bid struct{ house, pence int }

// work is a bill at work: what each house pays so far, and which of two houses comes first.
type work struct {
	Bill
	paid  [MaxHouses]int
	first func(x, than bid) bool
}

// begin puts a bill to work of which each house pays its Least so far.
func begin(b Bill, first func(x, than bid) bool) work {
	return work{Bill: b, first: first}.paying(each(b.Houses, House.least))
}

// byBids puts a bill to work in which the house comes first whose Value, divided by its pence, is greater.
func (b Bill) byBids() work {
	return begin(b, func(x, than bid) bool {
		more := b.Houses[than.house].Value*x.pence - b.Houses[x.house].Value*than.pence
		return cmp.Or(more, x.house-than.house) < 0
	})
}

// byRemainders puts a bill to work in which the house comes first with the greater remainder. Each of them pays its exact share, rounded down or up.
func (b Bill) byRemainders() work {
	values := b.values()
	var remainders []int
	rounded := Bill{Pence: b.Pence}
	for _, h := range b.Houses {
		exact := b.Pence * h.Value
		remainders = append(remainders, exact%values)
		rounded.Houses = append(rounded.Houses, House{Least: exact / values, Most: exact/values + 1})
	}
	return begin(rounded, func(x, than bid) bool {
		return cmp.Or(remainders[than.house]-remainders[x.house], x.house-than.house) < 0
	})
}

// paying returns the bill at work in which each house pays so much so far.
func (w work) paying(shares []int) work {
	copy(w.paid[:], shares)
	return w
}

// pennies yields the pennies that are left to pay, one after the other: the house that pays each of them, and how many pence it pays then.
func (w work) pennies() iter.Seq2[int, int] {
	return func(yield func(house, pence int) bool) {
		// A copy is changed, so that who goes through them once more gets the same ones.
		now := w
		for range w.Pence - sum(w.paid[:]...) {
			house := now.next()
			now.paid[house]++
			if !yield(house, now.paid[house]) {
				return
			}
		}
	}
}

// next returns the house that pays the next penny.
func (w work) next() int {
	houses := those(indices(w.Houses), w.canPay)
	next := houses[0]
	for _, house := range houses[1:] {
		if w.first(w.more(house), w.more(next)) {
			next = house
		}
	}
	return next
}

// canPay reports whether a house can pay more.
func (w work) canPay(house int) bool { return w.paid[house] < w.Houses[house].Most }

// more returns the bid of a house for one penny more.
func (w work) more(house int) bid { return bid{house: house, pence: w.paid[house] + 1} }

// shares returns what each house pays when all pennies are paid.
func (w work) shares() []int {
	paid := w.paid
	for house, pence := range w.pennies() {
		paid[house] = pence
	}
	return slices.Clone(paid[:len(w.Houses)])
}

// outbids returns all pairs of houses the first one of which outbids the second one.
func (w work) outbids() []Pair {
	var pairs []Pair
	for a := range w.Houses {
		for b := range w.Houses {
			if p := (Pair{A: a, B: b}); p != p.turned() && w.isOutbid(p) {
				pairs = append(pairs, p)
			}
		}
	}
	return pairs
}

// turned returns a pair, told from its other house.
func (p Pair) turned() Pair { return Pair{A: p.B, B: p.A} }

// isOutbid reports whether the first house of a pair outbids the second one, for the last penny that this one pays.
func (w work) isOutbid(p Pair) bool {
	return w.canPay(p.A) && w.paid[p.B] > w.Houses[p.B].Least && w.first(w.more(p.A), bid{house: p.B, pence: w.paid[p.B]})
}

// worth returns the greatest Value with which a house pays at most so many pence, or None.
func (b Bill) worth(house, pence int) int {
	var find func(lo, hi int) int
	// With a greater Value a house never pays less: lo will do, or is None, and nothing above hi will.
	find = func(lo, hi int) int {
		if lo == hi {
			return lo
		}
		value := hi - (hi-lo)/2
		if b.with(house, value).byBids().shares()[house] > pence {
			return find(lo, value-1)
		}
		return find(value, hi)
	}
	return find(None, MaxValue)
}

// with returns a bill of which a house has another Value.
func (b Bill) with(house, value int) Bill {
	b.Houses = slices.Clone(b.Houses)
	b.Houses[house].Value = value
	return b
}

// canBePaid reports whether there are shares by bids.
func (b Bill) canBePaid() bool {
	return within(b.Pence, sum(each(b.Houses, House.least)...), sum(each(b.Houses, House.most)...))
}

// allows reports whether no house pays less than its Least, or more than its Most.
func (b Bill) allows(shares []int) bool {
	for house, h := range b.Houses {
		if !within(shares[house], h.Least, h.Most) {
			return false
		}
	}
	return true
}

// values returns the sum of all Values.
func (b Bill) values() int { return sum(each(b.Houses, House.value)...) }

// The numbers of a house.
func (h House) value() int { return h.Value }
func (h House) least() int { return h.Least }
func (h House) most() int  { return h.Most }

// lowest returns a fraction in lowest terms.
func lowest(n, by int) api.Ratio {
	common, rest := by, n
	for rest > 0 {
		common, rest = rest, common%rest
	}
	return api.Ratio{Num: n / common, Den: by / common}
}
