package fee_test

import (
	"math"
	"math/big"
	"reflect"
	"slices"
	"testing"

	"laystall/api"
	"laystall/fee"
)

// TestP108Shares: shares add up to the bill, and none by remainders differs from the exact share by a penny or more.
func TestP108Shares(t *testing.T) {
	l := &luck{11}
	off := 0
	for range 2000 {
		b := l.bill(fee.MaxPence, 3, 30, fee.MaxValue)
		if bids, e := fee.Bids(b); e == api.OK && total(bids) != b.Pence {
			t.Fatal(b, bids)
		}
		shares, e := fee.Shares(b)
		exact, f := fee.Exact(b)
		if e == api.ErrNone && f == api.ErrNone {
			continue
		}
		noError(t, e, f)
		sum := new(big.Rat)
		for house, r := range exact {
			less := new(big.Rat).Sub(part(r.Num, r.Den), part(shares[house], 1))
			if less.Abs(less).Cmp(part(1, 1)) >= 0 {
				t.Fatal(b, exact, shares)
			}
			off += count(less.Sign() > 0)
			sum.Add(sum, part(r.Num, r.Den))
		}
		if total(shares) != b.Pence || sum.Cmp(part(b.Pence, 1)) != 0 {
			t.Fatal(b, exact, shares)
		}
	}
	if off < 2000 {
		t.Error("shares that differ from the exact ones:", off)
	}
}

// TestP108Bids: by bids no house pays less if the bill is greater, if its own Value is greater, or if that of another house is less.
func TestP108Bids(t *testing.T) {
	l := &luck{12}
	pays := func(b fee.Bill, house int) int {
		shares, e := fee.Bids(b)
		noError(t, e)
		return shares[house]
	}
	bills, own, others := 0, 0, 0
	for i := range 1500 {
		b := l.open([]int{12, 60, fee.MaxPence}[i%3], 3, 40, fee.MaxValue)
		house, other := l.below(len(b.Houses)), l.below(len(b.Houses))
		now := pays(b, house)
		greater := billOf(b)
		greater.Pence = l.from(b.Pence, fee.MaxPence)
		if canBid(greater) {
			n := pays(greater, house)
			if n < now {
				t.Fatal(b, greater, house)
			}
			bills += count(n > now)
		}
		n := pays(revalued(b, house, l.from(b.Houses[house].Value, fee.MaxValue)), house)
		if n < now {
			t.Fatal(b, house, n, now)
		}
		own += count(n > now)
		if other != house {
			n := pays(revalued(b, other, l.from(0, b.Houses[other].Value)), house)
			if n < now {
				t.Fatal(b, house, other, n, now)
			}
			others += count(n > now)
		}
	}
	if bills < 100 || own < 300 || others < 200 {
		t.Error("houses that pay more of a greater bill, by their own Value, and by that of another one:", bills, own, others)
	}
}

// TestP108Appeal: a house that appeals for a lesser Value never pays more, for a greater one never less.
func TestP108Appeal(t *testing.T) {
	l := &luck{13}
	less := 0
	for i := range 800 {
		b := l.open([]int{12, 60, fee.MaxPence}[i%3], 3, 40, fee.MaxValue)
		house := l.below(len(b.Houses))
		value := l.from(0, b.Houses[house].Value)
		_, gain, e := fee.Appeal(b, house, value)
		if gain < 0 || e != api.OK {
			t.Fatal(b, house, value, gain, e)
		}
		_, loss, e := fee.Appeal(revalued(b, house, value), house, b.Houses[house].Value)
		if loss != -gain || e != api.OK {
			t.Fatal(b, house, value, gain, loss, e)
		}
		less += count(gain > 0)
	}
	if less < 200 {
		t.Error("houses that pay less:", less)
	}
}

// TestP108Pounds: pounds never cost less if there are more of them, and those that cost no more than so many pence are no more than Pounds.
func TestP108Pounds(t *testing.T) {
	l := &luck{14}
	for range 2000 {
		some := l.tariff()
		few := l.from(0, fee.MaxPounds)
		many := l.from(few, fee.MaxPounds)
		little, e := fee.Cost(some, few)
		much, f := fee.Cost(some, many)
		noError(t, e, f)
		if little > much {
			t.Fatal(some, few, many, little, much)
		}
		for pence := max(little-2, 0); pence <= little+2; pence++ {
			most, e := fee.Pounds(some, pence)
			if e != api.OK || (little <= pence) != (few <= most) {
				t.Fatal(some, few, little, pence, most, e)
			}
		}
	}
}

// paidMore returns an account with one payment more, if there is room, or with one that comes earlier.
func (l *luck) paidMore(a fee.Account) fee.Account {
	more := accountOf(a)
	if n := len(a.Payments); n > 0 && (n == fee.MaxEntries || l.below(2) == 0) {
		p := &more.Payments[l.below(n)]
		p.Day = l.from(0, p.Day)
	} else {
		more.Payments = append(more.Payments, on(l.from(0, fee.MaxDay), l.some(1, 100)))
	}
	sortDays(more.Payments)
	return more
}

// TestP108Payments: a payment more, or an earlier one, never makes a charge paid later, nor late that was not.
func TestP108Payments(t *testing.T) {
	l := &luck{15}
	earlier, saved := 0, 0
	for range 2000 {
		a := l.account()
		more := l.paidMore(a)
		before, e := fee.Paid(a)
		after, f := fee.Paid(more)
		noError(t, e, f)
		for i, day := range before {
			if day >= 0 && (after[i] < 0 || after[i] > day) {
				t.Fatal(a, more, before, after)
			}
			earlier += count(after[i] != day)
		}
		for range 6 {
			day := l.from(0, fee.MaxDay)
			if n := len(a.Charges); n > 0 {
				day = min(a.Charges[l.below(n)].Day+a.Grace+1, fee.MaxDay)
			}
			late, _, e := fee.Late(a, day)
			still, _, f := fee.Late(more, day)
			noError(t, e, f)
			if slices.ContainsFunc(still, func(charge int) bool { return !slices.Contains(late, charge) }) {
				t.Fatal(a, more, day, late, still)
			}
			saved += count(len(still) < len(late))
		}
	}
	if earlier < 1000 || saved < 500 {
		t.Error("charges that are paid earlier, and days on which fewer of them are late:", earlier, saved)
	}
}

// TestP108Owing: what is owed is what was charged, less what was paid, if that is more than 0; otherwise nothing is owed, and what was paid more is kept.
func TestP108Owing(t *testing.T) {
	l := &luck{16}
	owed, kept, even := 0, 0, 0
	for range 2000 {
		a := l.account()
		day := l.some(0, fee.MaxDay)
		less := 0
		for _, c := range a.Charges {
			less += c.Pence * count(c.Day <= day)
		}
		for _, p := range a.Payments {
			less -= p.Pence * count(p.Day <= day)
		}
		owing, credit, e := fee.Owing(a, day)
		if owing != max(less, 0) || credit != max(-less, 0) || e != api.OK {
			t.Fatal(a, day, owing, credit, less, e)
		}
		owed += count(owing > 0)
		kept += count(credit > 0)
		even += count(owing == 0 && credit == 0)
	}
	if owed < 300 || kept < 300 || even < 50 {
		t.Error("days on which something is owed, on which something is kept, and others:", owed, kept, even)
	}
}

// strange returns a number that is an ordinary one, one at a limit, or any.
func (l *luck) strange() int {
	edges := [...]int{math.MinInt, math.MinInt + 1, -1, 0, 1, 2, 3, 4, 6, 7, 8, 60, 61, 100, 101, 400, 401, 500, 501, 1000, 1001, 10000, 10001, 20000, 20001, math.MaxInt - 1, math.MaxInt}
	if l.below(4) > 0 {
		return l.below(7)
	}
	return edges[l.below(len(edges))]
}

// odd makes one of some numbers in eighty a strange one.
func (l *luck) odd(numbers ...*int) {
	for _, n := range numbers {
		if l.below(80) == 0 {
			*n = l.strange()
		}
	}
}

// numbers returns about so many, most of which are from 0 to a limit.
func (l *luck) numbers(count, limit int) []int {
	var list []int
	for range max(count+l.from(-9, 9)/9, 0) {
		list = append(list, l.from(0, limit))
	}
	for i := range list {
		l.odd(&list[i])
	}
	return list
}

// strangeQuestion returns a question that can be wrong in every place.
func (l *luck) strangeQuestion() question {
	q := question{
		tariff: l.tariff(), bill: l.bill(fee.MaxPence, 3, fee.MaxValue), account: l.account(),
		pounds: l.strange(), pence: l.strange(), house: l.strange(), value: l.strange(), days: l.strange(), day: l.strange(),
	}
	q.left = l.numbers(len(q.bill.Houses), min(max(q.days, 0), 9))
	q.shares = l.numbers(len(q.bill.Houses), 9)
	if canBid(q.bill) && l.below(2) == 0 {
		q.shares = l.near(q.bill)
	}
	for i := range q.tariff {
		l.odd(&q.tariff[i].Upto, &q.tariff[i].Pence)
	}
	for i := range q.bill.Houses {
		l.odd(&q.bill.Houses[i].Value, &q.bill.Houses[i].Least, &q.bill.Houses[i].Most)
	}
	for _, some := range [][]fee.Entry{q.account.Charges, q.account.Payments} {
		for i := range some {
			l.odd(&some[i].Day, &some[i].Pence)
		}
	}
	l.odd(&q.bill.Pence, &q.account.Grace, &q.account.Late)
	switch l.below(20) {
	case 0:
		q.tariff = make([]fee.Step, l.below(7))
	case 1:
		q.bill.Houses = make([]fee.House, l.below(9))
	case 2:
		q.account.Charges = make([]fee.Entry, l.below(11))
	case 3:
		q.account.Payments = slices.Repeat(entries(on(3, 3)), l.below(11))
	}
	return q
}

// answers returns what all functions say to a question.
func answers(q question) []any {
	var list []any
	say := func(e api.Errno, results ...any) { list = append(list, e, results) }
	say(fee.CheckTariff(q.tariff))
	say(fee.Check(q.bill))
	say(fee.CheckAccount(q.account))
	number := func(n int, e api.Errno) { say(e, n) }
	number(fee.Cost(q.tariff, q.pounds))
	number(fee.Pounds(q.tariff, q.pence))
	number(fee.Worth(q.bill, q.house, q.pence))
	number(fee.Due(q.account, q.day))
	numbers := func(l []int, e api.Errno) { say(e, l) }
	numbers(fee.Shares(q.bill))
	numbers(fee.Bids(q.bill))
	numbers(fee.Paid(q.account))
	numbers(fee.Rests(q.account, q.day))
	both := func(l []int, n int, e api.Errno) { say(e, l, n) }
	both(fee.Appeal(q.bill, q.house, q.value))
	both(fee.Refunds(q.bill, q.shares, q.left, q.days))
	both(fee.Late(q.account, q.day))
	exact, e := fee.Exact(q.bill)
	say(e, exact)
	outbids, e := fee.Outbids(q.bill, q.shares)
	say(e, outbids)
	owing, credit, e := fee.Owing(q.account, q.day)
	say(e, owing, credit)
	return list
}

// TestP01: no question makes a function panic, change its arguments, or answer otherwise when it is asked again; with an error, there is nothing else.
func TestP01(t *testing.T) {
	l := &luck{17}
	var fine [17]int
	for range 2500 {
		q := l.strangeQuestion()
		before := copied(q)
		first := answers(q)
		if !reflect.DeepEqual(q, before) {
			t.Fatal("changed:", before, q)
		}
		if again := answers(q); !reflect.DeepEqual(again, first) {
			t.Fatal(q, first, again)
		}
		for i := range fine {
			e, results := first[2*i], first[2*i+1].([]any)
			fine[i] += count(e == api.OK)
			for _, x := range results {
				if e != api.OK && !reflect.ValueOf(x).IsZero() {
					t.Fatal(q, i, e, results)
				}
			}
		}
	}
	if slices.Min(fine[:]) < 250 || slices.Max(fine[:]) > 2450 {
		t.Error("questions without an error, for each function:", fine)
	}
}

// TestR3NilAndEmpty: a list that is nil is the same as an empty one.
func TestR3NilAndEmpty(t *testing.T) {
	same := func(q, r question) {
		t.Helper()
		first := answers(q)
		for i, x := range answers(r) {
			if !reflect.DeepEqual(x, first[i]) {
				t.Error(i, x, first[i])
			}
		}
	}
	for _, q := range []question{ordinary(), {}} {
		bare, empty := copied(q), copied(q)
		bare.tariff, bare.bill.Houses, bare.shares, bare.left = nil, nil, nil, nil
		empty.tariff, empty.bill.Houses, empty.shares, empty.left = steps(), []fee.House{}, list(), list()
		same(bare, empty)
	}
	bare, empty := ordinary(), ordinary()
	bare.account.Charges, empty.account.Charges = nil, entries()
	same(bare, empty)
	bare, empty = ordinary(), ordinary()
	bare.account.Payments, empty.account.Payments, bare.left, empty.left = nil, entries(), nil, list()
	same(bare, empty)
}

// TestR4Memory: who changes a result changes nothing of what was asked, or of what is answered next.
func TestR4Memory(t *testing.T) {
	l := &luck{18}
	for i := range 50 {
		q := ordinary()
		if i > 0 {
			q.bill, q.account = l.open(fee.MaxPence, fee.MaxValue), l.account()
			q.shares, q.left = l.near(q.bill), make([]int, len(q.bill.Houses))
		}
		before := copied(q)
		said := answers(q)
		for _, results := range answers(q) {
			if results, is := results.([]any); is {
				spoil(results)
			}
		}
		if again := answers(q); !reflect.DeepEqual(again, said) || !reflect.DeepEqual(q, before) {
			t.Error(again, said)
		}
	}
}

// spoil changes all lists among results, and what is behind them.
func spoil(results []any) {
	for _, x := range results {
		switch r := x.(type) {
		case []int:
			for i := range r[:cap(r)] {
				r[:cap(r)][i] = 77
			}
		case []api.Ratio:
			clear(r[:cap(r)])
		case []fee.Pair:
			clear(r[:cap(r)])
		}
	}
}

// spare is a copy of a list behind which there is room, with the same elements.
func spare[T any](list []T) []T { return slices.Concat(list, list)[:len(list)] }

// twice reports whether a list has the elements of another one, and the room behind it has them, too.
func twice[T any](list, want []T) bool {
	return reflect.DeepEqual(list[:2*len(want)], slices.Repeat(want, 2))
}

// TestR4Room: no function writes behind the end of a list.
func TestR4Room(t *testing.T) {
	want, q := ordinary(), ordinary()
	q.tariff, q.bill.Houses, q.shares, q.left = spare(q.tariff), spare(q.bill.Houses), spare(q.shares), spare(q.left)
	q.account.Charges, q.account.Payments = spare(q.account.Charges), spare(q.account.Payments)
	answers(q)
	fine := twice(q.tariff, want.tariff) && twice(q.bill.Houses, want.bill.Houses) && twice(q.shares, want.shares) && twice(q.left, want.left)
	if !fine || !twice(q.account.Charges, want.account.Charges) || !twice(q.account.Payments, want.account.Payments) {
		t.Error(q)
	}
}

// TestGreatest asks all functions with the greatest numbers that there may be.
func TestGreatest(t *testing.T) {
	q := question{
		tariff: steps(step(1, 500), step(2, 500), step(3, 500), step(20000, 500)), bill: bill(500, slices.Repeat([]fee.House{h(1000, 83, 500)}, 6)...),
		shares: list(83, 83, 83, 83, 84, 84), left: list(7, 7, 7, 7, 7, 7), pounds: 20000, pence: math.MaxInt, house: 5, value: 1000, days: 7, day: 400,
		account: fee.Account{Charges: slices.Repeat(entries(on(340, 10000)), 8), Payments: slices.Repeat(entries(on(400, 9999)), 8), Grace: 59, Late: 100},
	}
	said := answers(q)
	for i, want := range [][]any{
		{}, {}, {},
		{100000}, {20000}, {1000}, {0},
		{list(84, 84, 83, 83, 83, 83)}, {list(84, 84, 83, 83, 83, 83)}, {list(400, 400, 400, 400, 400, 400, 400, -1)}, {list(0, 0, 0, 0, 0, 0, 0, 8)},
		{list(84, 84, 83, 83, 83, 83), 0}, {list(83, 83, 83, 83, 84, 84), 500}, {list(0, 1, 2, 3, 4, 5, 6, 7), 80000},
		{slices.Repeat([]api.Ratio{ratio(250, 3)}, 6)},
		{pairs(outbid(0, 4), outbid(0, 5), outbid(1, 4), outbid(1, 5), outbid(2, 4), outbid(2, 5), outbid(3, 4), outbid(3, 5))},
		{8, 0},
	} {
		if e := said[2*i]; e != api.OK || !slices.EqualFunc(said[2*i+1].([]any), want, func(a, b any) bool { return reflect.DeepEqual(a, b) }) {
			t.Error(i, e, said[2*i+1], want)
		}
	}
}
