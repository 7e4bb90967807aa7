package fee_test

import (
	"math"
	"slices"
	"testing"

	"laystall/api"
	"laystall/fee"
)

// refundOf returns what is given back of a share: the most pence that, once for each of the days, are no more than the share for each day on which the street was left.
func refundOf(share, left, days int) int {
	pence := 0
	for (pence+1)*days <= share*left {
		pence++
	}
	return pence
}

// TestP105Every goes through all shares, days and numbers of days on which the street of a single house was left.
func TestP105Every(t *testing.T) {
	down := 0
	for share := range 501 {
		for days := 1; days <= 7; days++ {
			for left := range days + 1 {
				refunds, all, e := fee.Refunds(valued(share, 1), list(share), list(left), days)
				want := refundOf(share, left, days)
				if !slices.Equal(refunds, list(want)) || all != want || e != api.OK {
					t.Fatal(share, left, days, refunds, all, e)
				}
				down += count(want*days < share*left)
			}
		}
	}
	if down < 5000 {
		t.Error("refunds that were rounded down:", down)
	}
}

// TestP105Large asks for bills of several houses, each of which gets back its own: any shares that add up, also those that bids forbid.
func TestP105Large(t *testing.T) {
	l := &luck{8}
	forbidden := 0
	for range 2000 {
		b := l.bill(fee.MaxPence, 3, fee.MaxValue)
		days := l.from(1, fee.MaxWeek)
		shares, left := make([]int, len(b.Houses)), list()
		for range b.Pence {
			shares[l.below(len(shares))]++
		}
		for range shares {
			left = append(left, l.from(0, days))
		}
		refunds, all, e := fee.Refunds(b, shares, left, days)
		if len(refunds) != len(shares) || all != total(refunds) || e != api.OK {
			t.Fatal(b, shares, left, days, refunds, all, e)
		}
		for house, n := range refunds {
			if n != refundOf(shares[house], left[house], days) {
				t.Fatal(b, shares, left, days, refunds)
			}
			forbidden += count(shares[house] < b.Houses[house].Least || shares[house] > b.Houses[house].Most)
		}
	}
	if forbidden < 500 {
		t.Error("shares that bids forbid:", forbidden)
	}
}

// TestP105Edges asks for shares, days and lists that are not allowed, and for the limits of those that are.
func TestP105Edges(t *testing.T) {
	ours := list(56, 33, 11)
	for i, x := range []struct {
		shares, left []int
		days         int
		refunds      []int
		all          int
		e            api.Errno
	}{
		{ours, list(1, 0, 7), 7, list(8, 0, 11), 19, api.OK},
		{ours, list(2, 1, 1), 3, list(37, 11, 3), 51, api.OK},
		{ours, list(1, 1, 1), 1, list(56, 33, 11), 100, api.OK},
		{ours, list(0, 0, 0), 1, list(0, 0, 0), 0, api.OK},
		{list(100, 0, 0), list(7, 7, 6), 7, list(100, 0, 0), 100, api.OK},
		{ours, list(0, 0, 2), 1, nil, 0, api.ErrRange},
		{ours, list(-1, 0, 1), 1, nil, 0, api.ErrRange},
		{ours, list(0, 0, 0), 0, nil, 0, api.ErrRange},
		{ours, list(0, 0, 0), 8, nil, 0, api.ErrRange},
		{ours, list(0, 0, 0), -1, nil, 0, api.ErrRange},
		{ours, list(0, 0, 0), math.MinInt, nil, 0, api.ErrRange},
		{ours, list(math.MaxInt, 0, 0), math.MaxInt, nil, 0, api.ErrRange},
		{ours, list(0, 0), 7, nil, 0, api.ErrCount},
		{ours, list(0, 0, 0, 0), 7, nil, 0, api.ErrCount},
		{ours, list(0, 8), 7, nil, 0, api.ErrCount},
		{ours, list(0, 0), 8, nil, 0, api.ErrRange},
		{list(56, 33, 12), nil, 0, nil, 0, api.ErrWrong},
		{list(56, 33, 10), nil, 0, nil, 0, api.ErrWrong},
		{list(101, 0, -1), nil, 0, nil, 0, api.ErrRange},
		{list(501, 0, 0), nil, 0, nil, 0, api.ErrRange},
		{list(math.MaxInt, math.MaxInt, 102), nil, 0, nil, 0, api.ErrRange},
		{list(56, 44), nil, 0, nil, 0, api.ErrCount},
		{list(56, 33, 11, 0), nil, 0, nil, 0, api.ErrCount},
		{list(501, -1), nil, 0, nil, 0, api.ErrCount},
	} {
		refunds, all, e := fee.Refunds(three(), x.shares, x.left, x.days)
		if !slices.Equal(refunds, x.refunds) || all != x.all || e != x.e {
			t.Error(i, refunds, all, e)
		}
	}
}
