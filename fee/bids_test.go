package fee_test

import (
	"slices"
	"testing"

	"laystall/api"
	"laystall/fee"
)

// TestP103Every goes through all shares of all small bills: those by bids are the only ones by which no house outbids another one.
func TestP103Every(t *testing.T) {
	open, none, others := 0, 0, 0
	everyBill(func(b fee.Bill) {
		shares, e := fee.Bids(b)
		if !canBid(b) {
			if shares != nil || e != api.ErrNone {
				t.Fatal(b, shares, e)
			}
			none++
			return
		}
		if !slices.Equal(shares, bidsOf(b)) || e != api.OK {
			t.Fatal(b, shares, e)
		}
		open++
		everyShares(b, func(other []int) {
			got, e := fee.Outbids(b, other)
			if !slices.Equal(got, outbidsOf(b, other)) || e != api.OK || (len(got) == 0) != slices.Equal(other, shares) {
				t.Fatal(b, other, got, e)
			}
			others += len(got)
		})
	})
	if open < 10000 || none < 10000 || others < 10000 {
		t.Error("bills that can be paid, and that cannot, and pairs:", open, none, others)
	}
}

// TestP103Large asks for greater bills, and for shares that are those by bids, or nearly.
func TestP103Large(t *testing.T) {
	l := &luck{4}
	least, most, none, ties, pairs := 0, 0, 0, 0, 0
	for range 600 {
		b := l.bill(fee.MaxPence, 3, 40, fee.MaxValue)
		shares, e := fee.Bids(b)
		if !canBid(b) {
			if shares != nil || e != api.ErrNone {
				t.Fatal(b, shares, e)
			}
			none++
			continue
		}
		if !slices.Equal(shares, bidsOf(b)) || e != api.OK {
			t.Fatal(b, shares, e)
		}
		for i, house := range b.Houses {
			least += count(0 < shares[i] && shares[i] == house.Least)
			most += count(house.Least < shares[i] && shares[i] == house.Most)
			for j, other := range b.Houses[:i] {
				ties += count(house.Value*shares[j] == other.Value*(shares[i]+1) && house.Value > 0)
			}
		}
		for range 4 {
			other := l.near(b)
			got, e := fee.Outbids(b, other)
			if !slices.Equal(got, outbidsOf(b, other)) || e != api.OK || (len(got) == 0) != slices.Equal(other, shares) {
				t.Fatal(b, other, got, e)
			}
			pairs += len(got)
		}
	}
	if least < 100 || most < 50 || none < 50 || ties < 100 || pairs < 500 {
		t.Error("houses that pay their Least, their Most, bills that cannot be paid, ties, pairs:", least, most, none, ties, pairs)
	}
}

// TestP103Edges asks for shares by bids of bills that nobody can pay, that all pay fully, and of houses without values.
func TestP103Edges(t *testing.T) {
	six := slices.Repeat([]fee.House{h(7, 0, 500)}, 6)
	for i, x := range []struct {
		b      fee.Bill
		shares []int
		e      api.Errno
	}{
		{three(), list(56, 33, 11), api.OK},
		{bill(100, h(5, 0, 100), h(3, 0, 100), h(1, 20, 100)), list(50, 30, 20), api.OK},
		{bill(100, h(5, 0, 40), h(3, 0, 100), h(1, 20, 100)), list(40, 40, 20), api.OK},
		{bill(5, h(0, 0, 3), h(0, 0, 9), h(4, 0, 1)), list(3, 1, 1), api.OK},
		{bill(6, h(4, 0, 9), h(2, 0, 9), h(1, 0, 9)), list(4, 2, 0), api.OK},
		{bill(6, h(1, 0, 9), h(2, 0, 9), h(4, 0, 9)), list(1, 2, 3), api.OK},
		{bill(7, h(4, 0, 2), h(2, 0, 2), h(1, 0, 2)), nil, api.ErrNone},
		{bill(6, h(4, 0, 2), h(2, 0, 2), h(1, 0, 2)), list(2, 2, 2), api.OK},
		{bill(5, h(4, 3, 9), h(2, 3, 9)), nil, api.ErrNone},
		{bill(6, h(4, 3, 9), h(2, 3, 9)), list(3, 3), api.OK},
		{bill(0, h(4, 0, 9)), list(0), api.OK},
		{bill(0, h(4, 1, 9)), nil, api.ErrNone},
		{bill(1, h(4, 0, 0)), nil, api.ErrNone},
		{bill(500, six...), list(84, 84, 83, 83, 83, 83), api.OK},
		{bill(500, h(0, 500, 500), h(1000, 0, 500)), list(500, 0), api.OK},
		{bill(500, h(0, 499, 500), h(1000, 0, 500)), list(499, 1), api.OK},
		{bill(500, slices.Repeat([]fee.House{h(1000, 500, 500)}, 6)...), nil, api.ErrNone},
	} {
		if shares, e := fee.Bids(x.b); !slices.Equal(shares, x.shares) || e != x.e {
			t.Error(i, shares, e)
		}
	}
}

// TestP103Outbids asks for pairs of the chapter's example, and for shares that are not allowed.
func TestP103Outbids(t *testing.T) {
	least, most := three(), three()
	least.Houses[2].Least = 11
	most.Houses[0].Most = 55
	for i, x := range []struct {
		b      fee.Bill
		shares []int
		pairs  []fee.Pair
		e      api.Errno
	}{
		{three(), list(56, 33, 11), nil, api.OK},
		{three(), list(55, 34, 11), pairs(outbid(0, 1)), api.OK},
		{three(), list(54, 34, 12), pairs(outbid(0, 1), outbid(0, 2), outbid(1, 2)), api.OK},
		{three(), list(0, 0, 100), pairs(outbid(0, 2), outbid(1, 2)), api.OK},
		{three(), list(100, 0, 0), pairs(outbid(1, 0), outbid(2, 0)), api.OK},
		{valued(3, 2, 2), list(2, 1), nil, api.OK},
		{valued(3, 2, 2), list(1, 2), pairs(outbid(0, 1)), api.OK},
		{valued(2, 0, 0, 0), list(0, 1, 1), pairs(outbid(0, 1), outbid(0, 2), outbid(1, 2)), api.OK},
		{valued(2, 0, 0, 0), list(2, 0, 0), nil, api.OK},
		{least, list(56, 33, 11), nil, api.OK},
		{least, list(57, 33, 10), nil, api.ErrState},
		{least, list(55, 34, 11), pairs(outbid(0, 1)), api.OK},
		{most, list(55, 34, 11), nil, api.OK},
		{most, list(56, 33, 11), nil, api.ErrState},
		{most, list(54, 35, 11), pairs(outbid(0, 1), outbid(0, 2)), api.OK},
		{most, list(54, 36, 10), pairs(outbid(0, 1), outbid(2, 1)), api.OK},
		{three(), list(), nil, api.ErrCount},
		{three(), list(100, 0), nil, api.ErrCount},
		{three(), list(100, 0, 0, 0), nil, api.ErrCount},
		{three(), list(101, 0, -1), nil, api.ErrRange},
		{three(), list(501, 0, 0), nil, api.ErrRange},
		{three(), list(500, 0, 0), nil, api.ErrWrong},
		{three(), list(99, 0, 0), nil, api.ErrWrong},
		{three(), list(0, 0, 0), nil, api.ErrWrong},
		{bill(0, h(1, 0, 0), h(2, 0, 0)), list(0, 0), nil, api.OK},
		{bill(0, h(1, 1, 1), h(2, 0, 0)), list(0, 0), nil, api.ErrState},
	} {
		if got, e := fee.Outbids(x.b, x.shares); !slices.Equal(got, x.pairs) || e != x.e {
			t.Error(i, got, e)
		}
	}
}
