package fee_test

import (
	"cmp"
	"math/big"
	"slices"
	"testing"

	"laystall/api"
	"laystall/fee"
)

// list makes a list of numbers, h a house, on an entry, steps, houses and entries lists of them.
func list(numbers ...int) []int               { return numbers }
func h(value, least, most int) fee.House      { return fee.House{Value: value, Least: least, Most: most} }
func on(day, pence int) fee.Entry             { return fee.Entry{Day: day, Pence: pence} }
func steps(s ...fee.Step) []fee.Step          { return s }
func pairs(p ...fee.Pair) []fee.Pair          { return p }
func entries(e ...fee.Entry) []fee.Entry      { return e }
func ratio(n, by int) api.Ratio               { return api.Ratio{Num: n, Den: by} }
func outbid(a, b int) fee.Pair                { return fee.Pair{A: a, B: b} }
func step(upto, pence int) fee.Step           { return fee.Step{Upto: upto, Pence: pence} }
func bill(pence int, l ...fee.House) fee.Bill { return fee.Bill{Pence: pence, Houses: l} }

// valued is a bill of houses that pay from 0 pence to MaxPence.
func valued(pence int, values ...int) fee.Bill {
	b := fee.Bill{Pence: pence}
	for _, v := range values {
		b.Houses = append(b.Houses, h(v, 0, fee.MaxPence))
	}
	return b
}

// tariff, three and example are the tariff, the bill and the account of the chapter's examples.
func tariff() []fee.Step { return steps(step(1000, 50), step(3000, 30)) }
func three() fee.Bill    { return bill(100, h(5, 0, 100), h(3, 0, 100), h(1, 0, 100)) }
func example() fee.Account {
	return fee.Account{Charges: entries(on(0, 100), on(20, 80)), Payments: entries(on(5, 60), on(25, 90)), Grace: 10, Late: 5}
}

// billOf and accountOf return what shares no memory with another one.
func billOf(b fee.Bill) fee.Bill {
	b.Houses = slices.Clone(b.Houses)
	return b
}
func accountOf(a fee.Account) fee.Account {
	a.Charges, a.Payments = slices.Clone(a.Charges), slices.Clone(a.Payments)
	return a
}

// luck is a row of numbers that is the same in each run.
type luck struct{ state uint64 }

// below returns a number from 0 to n - 1.
func (l *luck) below(n int) int {
	l.state = l.state*6364136223846793005 + 1442695040888963407
	return int((l.state >> 33) % uint64(n))
}

// from returns a number from lo to hi.
func (l *luck) from(lo, hi int) int { return lo + l.below(hi-lo+1) }

// some returns any number from lo to hi, often one of the least or of the greatest ones.
func (l *luck) some(lo, hi int) int {
	switch l.below(6) {
	case 0:
		return min(lo+l.below(3), hi)
	case 1:
		return max(hi-l.below(3), lo)
	}
	return l.from(lo, hi)
}

// tariff returns a valid one.
func (l *luck) tariff() []fee.Step {
	uptos := list()
	for range l.from(1, fee.MaxSteps) {
		uptos = append(uptos, l.some(1, []int{10, 300, fee.MaxPounds}[l.below(3)]))
	}
	slices.Sort(uptos)
	var t []fee.Step
	for _, upto := range slices.Compact(uptos) {
		t = append(t, step(upto, l.some(0, fee.MaxRate)))
	}
	return t
}

// bill returns a valid one of at most so many pence, with values up to one of these limits.
func (l *luck) bill(pence int, values ...int) fee.Bill {
	b := fee.Bill{Pence: l.some(0, pence)}
	value := values[l.below(len(values))]
	for range max(l.from(1, fee.MaxHouses), l.from(1, fee.MaxHouses)) {
		b.Houses = append(b.Houses, h(l.some(0, value), 0, fee.MaxPence))
	}
	for i := range b.Houses {
		if l.below(3) == 0 {
			b.Houses[i].Least = l.from(0, pence/len(b.Houses))
		}
		if l.below(3) == 0 {
			b.Houses[i].Most = l.from(b.Houses[i].Least, pence)
		}
	}
	return b
}

// open returns a bill that has shares by bids.
func (l *luck) open(pence int, values ...int) fee.Bill {
	for {
		if b := l.bill(pence, values...); canBid(b) {
			return b
		}
	}
}

// near returns shares that add up to a bill: those by bids, of which some pence are paid by other houses.
func (l *luck) near(b fee.Bill) []int {
	shares := bidsOf(b)
	for range l.below(4) {
		from, to := l.below(len(shares)), l.below(len(shares))
		many := l.below(min(shares[from]-b.Houses[from].Least, b.Houses[to].Most-shares[to]) + 1)
		shares[from] -= many
		shares[to] += many
	}
	return shares
}

// entries returns some of an account, in order, of days and pence up to limits.
func (l *luck) entries(days, pence int) []fee.Entry {
	var all []fee.Entry
	for range l.from(0, fee.MaxEntries) {
		all = append(all, on(l.some(0, days), l.some(1, pence)))
	}
	sortDays(all)
	return all
}

// account returns a valid one, of which payments are about as much as charges.
func (l *luck) account() fee.Account {
	days, pence := list(3, 40, fee.MaxDay)[l.below(3)], list(4, 100, fee.MaxEntry)[l.below(3)]
	grace := list(0, 3, 20, fee.MaxGrace)[l.below(4)]
	return fee.Account{Charges: l.entries(days, pence), Payments: l.entries(days, pence), Grace: l.from(0, grace), Late: l.some(0, 100)}
}

// sortDays sorts entries by days.
func sortDays(list []fee.Entry) {
	slices.SortStableFunc(list, func(a, b fee.Entry) int { return cmp.Compare(a.Day, b.Day) })
}

// costsOf returns what 0, 1, 2 pounds and so on cost, pound by pound, each of them by the step in which it is.
func costsOf(t []fee.Step) []int {
	costs, pence := list(0), 0
	hundredths := 0
	for pound := 1; pound <= 20000; pound++ {
		in := slices.IndexFunc(t, func(s fee.Step) bool { return pound <= s.Upto })
		if in < 0 {
			in = len(t) - 1
		}
		hundredths += t[in].Pence
		for 100*pence < hundredths {
			pence++
		}
		costs = append(costs, pence)
	}
	return costs
}

// total adds the numbers of a list.
func total(numbers []int) int {
	n := 0
	for _, x := range numbers {
		n += x
	}
	return n
}

// part is a fraction of any size.
func part(n, by int) *big.Rat { return big.NewRat(int64(n), int64(by)) }

// valuesOf returns the values of houses.
func valuesOf(b fee.Bill) []int {
	var values []int
	for _, house := range b.Houses {
		values = append(values, house.Value)
	}
	return values
}

// exactOf returns the exact shares of a bill with values.
func exactOf(b fee.Bill) []*big.Rat {
	var shares []*big.Rat
	for _, v := range valuesOf(b) {
		shares = append(shares, new(big.Rat).Mul(part(b.Pence, 1), part(v, total(valuesOf(b)))))
	}
	return shares
}

// sharesOf returns the shares by remainders of a bill with values: one more penny is always paid by the house that lacks most of its exact share.
func sharesOf(b fee.Bill) []int {
	shares := make([]int, len(b.Houses))
	remainders := exactOf(b)
	for house := range shares {
		for remainders[house].Cmp(part(1, 1)) >= 0 {
			shares[house]++
			remainders[house].Sub(remainders[house], part(1, 1))
		}
	}
	for total(shares) < b.Pence {
		greatest := 0
		for house := range shares {
			if remainders[house].Cmp(remainders[greatest]) > 0 {
				greatest = house
			}
		}
		shares[greatest]++
		remainders[greatest].SetInt64(-1) // it pays one penny only
	}
	return shares
}

// canBid reports whether there are shares by bids.
func canBid(b fee.Bill) bool {
	least, most := 0, 0
	for _, house := range b.Houses {
		least += house.Least
		most += house.Most
	}
	return least <= b.Pence && b.Pence <= most
}

// bidsOf returns the shares by bids, penny by penny.
func bidsOf(b fee.Bill) []int {
	shares := list()
	for _, house := range b.Houses {
		shares = append(shares, house.Least)
	}
	for total(shares) < b.Pence {
		best := -1
		var most *big.Rat
		for i, house := range b.Houses {
			if shares[i] == house.Most {
				continue
			}
			if bid := part(house.Value, shares[i]+1); best < 0 || bid.Cmp(most) > 0 {
				best, most = i, bid
			}
		}
		shares[best]++
	}
	return shares
}

// outbidsOf returns all pairs of houses one of which outbids the other one.
func outbidsOf(b fee.Bill, shares []int) []fee.Pair {
	var all []fee.Pair
	for i, a := range b.Houses {
		for j, c := range b.Houses {
			if i == j || shares[i] >= a.Most || shares[j] <= c.Least {
				continue
			}
			order := part(a.Value, shares[i]+1).Cmp(part(c.Value, shares[j]))
			if order > 0 || order == 0 && i < j {
				all = append(all, outbid(i, j))
			}
		}
	}
	return all
}

// everyShares goes through all shares that add up to a bill, each from Least to Most.
func everyShares(b fee.Bill, visit func(shares []int)) {
	shares := make([]int, len(b.Houses))
	var add func(house, left int)
	add = func(house, left int) {
		if house == len(shares) {
			if left == 0 {
				visit(shares)
			}
			return
		}
		for n := b.Houses[house].Least; n <= min(b.Houses[house].Most, left); n++ {
			shares[house] = n
			add(house+1, left-n)
		}
	}
	add(0, b.Pence)
}

// everyBill goes through all bills of one to three houses, with small numbers.
func everyBill(visit func(b fee.Bill)) {
	var kinds []fee.House
	for value := range 4 {
		for least := range 2 {
			for most := least; most <= 2; most++ {
				kinds = append(kinds, h(value, least, most))
			}
		}
	}
	var add func(houses []fee.House)
	add = func(houses []fee.House) {
		for pence := range 6 {
			if len(houses) > 0 {
				visit(bill(pence, houses...))
			}
		}
		for _, kind := range kinds {
			if len(houses) < 3 {
				add(slices.Concat(houses, []fee.House{kind}))
			}
		}
	}
	add(nil)
}

// page is what an account comes to on a day.
type page struct {
	rests         []int
	owing, credit int
}

// book is an account, told day by day: for each charge the day on which it is paid, or -1, and a page for each day.
type book struct {
	fee.Account
	paid  []int
	pages []page
}

// bookOf tells an account for so many days: what is paid comes into a purse, from which charges that have come are paid, the first one first.
func bookOf(a fee.Account, days int) book {
	b := book{Account: a, paid: slices.Repeat(list(-1), len(a.Charges))}
	rests := make([]int, len(a.Charges))
	purse := 0
	for day := range days {
		for _, p := range a.Payments {
			if p.Day == day {
				purse += p.Pence
			}
		}
		for i, c := range a.Charges {
			if c.Day == day {
				rests[i] = c.Pence
			}
			if c.Day > day || b.paid[i] >= 0 {
				continue
			}
			pays := min(purse, rests[i])
			purse -= pays
			if rests[i] -= pays; rests[i] == 0 {
				b.paid[i] = day
			}
		}
		b.pages = append(b.pages, page{rests: slices.Clone(rests), owing: total(rests), credit: purse})
	}
	return b
}

// late returns the charges of a book that are late on a day, and what they cost.
func (b book) late(day int) (late []int, costs int) {
	for i, c := range b.Charges {
		last := c.Day + b.Grace
		if day <= last || 0 <= b.paid[i] && b.paid[i] <= last {
			continue
		}
		late = append(late, i)
		more := 0
		for 100*more < c.Pence*b.Late {
			more++
		}
		costs += more
	}
	return late, costs
}

// helps reports whether no charge is late on the day after a day that was not late on it, if so much is paid besides.
func helps(a fee.Account, day, pence int) bool {
	before, _ := bookOf(a, day+1).late(day)
	more := accountOf(a)
	more.Payments = append(more.Payments, on(day, pence))
	after, _ := bookOf(more, day+2).late(day + 1)
	return !slices.ContainsFunc(after, func(charge int) bool { return !slices.Contains(before, charge) })
}

// everyAccount goes through all accounts of at most two charges and two payments, with small numbers.
func everyAccount(visit func(a fee.Account)) {
	some := [][]fee.Entry{nil}
	for day := range 4 {
		for _, pence := range list(1, 2, 4) {
			some = append(some, entries(on(day, pence)))
		}
	}
	single := slices.Clone(some[1:])
	for _, first := range single {
		for _, second := range single {
			if first[0].Day <= second[0].Day {
				some = append(some, slices.Concat(first, second))
			}
		}
	}
	for _, charges := range some {
		for _, payments := range some {
			visit(fee.Account{Charges: charges, Payments: payments, Grace: len(payments) % 3, Late: 30})
			visit(fee.Account{Charges: charges, Payments: payments, Grace: 1, Late: 100})
		}
	}
}

// count is 1 for what is so.
func count(is bool) int {
	if is {
		return 1
	}
	return 0
}

// noError fails a test if a call that has no reason for it returns an error.
func noError(t *testing.T, errors ...api.Errno) {
	t.Helper()
	for _, e := range errors {
		if e != api.OK {
			t.Fatal("error", e)
		}
	}
}
