package fee_test

import (
	"math"
	"slices"
	"testing"

	"laystall/api"
	"laystall/fee"
)

// TestP102Check asks each number of a bill at its limits, and one beyond them.
func TestP102Check(t *testing.T) {
	for i, x := range []struct {
		number func(b *fee.Bill) *int
		limits api.Span
	}{
		{func(b *fee.Bill) *int { return &b.Pence }, api.Span{Lo: 0, Hi: 500}},
		{func(b *fee.Bill) *int { return &b.Houses[0].Value }, api.Span{Lo: 0, Hi: 1000}},
		{func(b *fee.Bill) *int { return &b.Houses[2].Value }, api.Span{Lo: 0, Hi: 1000}},
		{func(b *fee.Bill) *int { return &b.Houses[0].Least }, api.Span{Lo: 0, Hi: 100}},
		{func(b *fee.Bill) *int { return &b.Houses[2].Least }, api.Span{Lo: 0, Hi: 100}},
		{func(b *fee.Bill) *int { return &b.Houses[0].Most }, api.Span{Lo: 0, Hi: 500}},
		{func(b *fee.Bill) *int { return &b.Houses[1].Most }, api.Span{Lo: 20, Hi: 500}},
	} {
		for _, n := range list(x.limits.Lo, x.limits.Hi, x.limits.Lo-1, x.limits.Hi+1, math.MinInt, math.MaxInt) {
			b := three()
			b.Houses[1].Least = 20
			*x.number(&b) = n
			want := api.OK
			if n < x.limits.Lo || n > x.limits.Hi {
				want = api.ErrRange
			}
			if e := fee.Check(b); e != want {
				t.Error(i, n, e)
			}
		}
	}
	// A Least and a Most that are both too great, or both too small, are not allowed either.
	for _, house := range []fee.House{h(1, 501, 501), h(1, -1, -1), h(1, 501, 502), h(1, 500, 500), h(1, 0, 0)} {
		want := api.OK
		if house.Least < 0 || house.Least > 500 {
			want = api.ErrRange
		}
		if e := fee.Check(bill(5, h(2, 0, 9), house)); e != want {
			t.Error(house, e)
		}
	}
}

// TestP102Counts asks for all numbers of houses.
func TestP102Counts(t *testing.T) {
	for n := range 9 {
		want := api.OK
		if n < 1 || n > 6 {
			want = api.ErrCount
		}
		if e := fee.Check(bill(0, make([]fee.House, n)...)); e != want {
			t.Error(n, "houses:", e)
		}
	}
	// Pence are asked before houses are counted, and these before their numbers.
	if e := fee.Check(bill(501, make([]fee.House, 7)...)); e != api.ErrRange {
		t.Error(e)
	}
	if e := fee.Check(bill(500, slices.Repeat([]fee.House{h(-1, 0, 0)}, 7)...)); e != api.ErrCount {
		t.Error(e)
	}
}

// asked holds Exact and Shares of a bill against the words of the chapter, and reports whether there are shares.
func asked(t *testing.T, b fee.Bill) bool {
	t.Helper()
	exact, e := fee.Exact(b)
	shares, f := fee.Shares(b)
	if total(valuesOf(b)) == 0 {
		if exact != nil || shares != nil || e != api.ErrNone || f != api.ErrNone {
			t.Fatal(b, exact, shares, e, f)
		}
		return false
	}
	noError(t, e, f)
	want := exactOf(b)
	for house, r := range exact {
		lowest := api.Ratio{Num: int(want[house].Num().Int64()), Den: int(want[house].Denom().Int64())}
		if len(exact) != len(b.Houses) || r != lowest {
			t.Fatal(b, exact, want)
		}
	}
	if !slices.Equal(shares, sharesOf(b)) {
		t.Fatal(b, shares, sharesOf(b))
	}
	return true
}

// TestP102Every goes through all bills of one to four houses with small values.
func TestP102Every(t *testing.T) {
	shared, none := 0, 0
	var add func(values []int)
	add = func(values []int) {
		for pence := range 8 {
			if len(values) == 0 {
				continue
			}
			is := asked(t, valued(pence, values...))
			shared += count(is)
			none += count(!is)
		}
		for v := range 4 {
			if len(values) < 4 {
				add(slices.Concat(values, list(v)))
			}
		}
	}
	add(nil)
	if shared != 8*(4+16+64+256-4) || none != 8*4 {
		t.Error(shared, none)
	}
}

// TestP102Large asks for greater bills; what houses pay at least and at most does not matter.
func TestP102Large(t *testing.T) {
	l := &luck{3}
	parts, ties, out := 0, 0, 0
	for range 3000 {
		b := l.bill(fee.MaxPence, 3, 30, fee.MaxValue)
		if !asked(t, b) {
			continue
		}
		shares, e := fee.Shares(b)
		noError(t, e)
		exact := exactOf(b)
		for i, a := range b.Houses {
			parts += count(!exact[i].IsInt())
			out += count(shares[i] < a.Least || shares[i] > a.Most)
			for j, c := range b.Houses[:i] {
				ties += count(a.Value == c.Value && shares[i] != shares[j])
			}
		}
	}
	if parts < 3000 || ties < 100 || out < 500 {
		t.Error("exact shares that are no whole pence, houses with one value that pay different shares, shares that bids forbid:", parts, ties, out)
	}
}

// TestP102Edges asks for the chapter's example, houses without a value, and the greatest numbers.
func TestP102Edges(t *testing.T) {
	for i, x := range []struct {
		b      fee.Bill
		exact  []api.Ratio
		shares []int
		e      api.Errno
	}{
		{three(), []api.Ratio{ratio(500, 9), ratio(100, 3), ratio(100, 9)}, list(56, 33, 11), api.OK},
		{valued(100, 1, 1, 1), []api.Ratio{ratio(100, 3), ratio(100, 3), ratio(100, 3)}, list(34, 33, 33), api.OK},
		{valued(1, 1, 3, 3), []api.Ratio{ratio(1, 7), ratio(3, 7), ratio(3, 7)}, list(0, 1, 0), api.OK},
		{valued(2, 1, 0, 1, 0, 1), []api.Ratio{ratio(2, 3), ratio(0, 1), ratio(2, 3), ratio(0, 1), ratio(2, 3)}, list(1, 0, 1, 0, 0), api.OK},
		{valued(0, 2, 4), []api.Ratio{ratio(0, 1), ratio(0, 1)}, list(0, 0), api.OK},
		{valued(9, 0, 1000), []api.Ratio{ratio(0, 1), ratio(9, 1)}, list(0, 9), api.OK},
		{valued(500, 1000, 1000, 1000, 1000, 1000, 999), []api.Ratio{ratio(500000, 5999), ratio(500000, 5999), ratio(500000, 5999), ratio(500000, 5999), ratio(500000, 5999), ratio(499500, 5999)}, list(84, 84, 83, 83, 83, 83), api.OK},
		{bill(7, h(1, 7, 7), h(6, 0, 0)), []api.Ratio{ratio(1, 1), ratio(6, 1)}, list(1, 6), api.OK},
		{bill(7, h(1, 0, 0), h(1, 0, 1)), []api.Ratio{ratio(7, 2), ratio(7, 2)}, list(4, 3), api.OK},
		{valued(9, 0, 0), nil, nil, api.ErrNone},
		{valued(0, 0), nil, nil, api.ErrNone},
	} {
		exact, e := fee.Exact(x.b)
		shares, f := fee.Shares(x.b)
		if !slices.Equal(exact, x.exact) || !slices.Equal(shares, x.shares) || e != x.e || f != x.e {
			t.Error(i, exact, shares, e, f)
		}
	}
}
