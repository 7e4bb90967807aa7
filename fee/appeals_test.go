package fee_test

import (
	"math"
	"slices"
	"testing"

	"laystall/api"
	"laystall/fee"
)

// revalued returns a bill of which a house has another Value.
func revalued(b fee.Bill, house, value int) fee.Bill {
	b = billOf(b)
	b.Houses[house].Value = value
	return b
}

// TestP104Appeal lets each house of some bills appeal for a few values.
func TestP104Appeal(t *testing.T) {
	l := &luck{5}
	less, more, same, none := 0, 0, 0, 0
	for i := range 400 {
		b := l.bill([]int{20, 20, 20, fee.MaxPence}[i%4], 3, 40, fee.MaxValue)
		house := l.below(len(b.Houses))
		for range 3 {
			value := l.some(0, l.from(1, fee.MaxValue))
			shares, gain, e := fee.Appeal(b, house, value)
			if !canBid(b) {
				if shares != nil || gain != 0 || e != api.ErrNone {
					t.Fatal(b, house, value, shares, gain, e)
				}
				none++
				continue
			}
			now, then := bidsOf(b), bidsOf(revalued(b, house, value))
			if !slices.Equal(shares, then) || gain != now[house]-then[house] || e != api.OK {
				t.Fatal(b, house, value, shares, gain, e)
			}
			less += count(gain > 0)
			more += count(gain < 0)
			same += count(gain == 0)
		}
	}
	if less < 50 || more < 50 || same < 50 || none < 50 {
		t.Error("houses that pay less, more, and as much, and bills that cannot be paid:", less, more, same, none)
	}
}

// TestP104Worth asks for all pence of some small bills, each value from 0 to MaxValue.
func TestP104Worth(t *testing.T) {
	l := &luck{6}
	none, all, between := 0, 0, 0
	for range 25 {
		b := l.open(9, 3, 40, fee.MaxValue)
		house := l.below(len(b.Houses))
		pays := list()
		for value := range 1001 {
			pays = append(pays, bidsOf(revalued(b, house, value))[house])
		}
		for pence := range 11 {
			want := -1
			for value, n := range pays {
				if n <= pence {
					want = value
				}
			}
			worth, e := fee.Worth(b, house, pence)
			if want < 0 && (worth != 0 || e != api.ErrNone) || want >= 0 && (worth != want || e != api.OK) {
				t.Fatal(b, house, pence, worth, e, want)
			}
			none += count(want < 0)
			all += count(want == 1000)
			between += count(0 < want && want < 1000)
		}
	}
	if none < 10 || all < 30 || between < 20 {
		t.Error("pence that are too few, pence for any value, and others:", none, all, between)
	}
}

// TestP104Large asks for greater bills: with the value that is told a house pays at most so many pence, with the next one and some greater ones more.
func TestP104Large(t *testing.T) {
	l := &luck{7}
	between := 0
	for range 150 {
		b := l.open(fee.MaxPence, 3, 40, fee.MaxValue)
		house := l.below(len(b.Houses))
		pays := func(value int) int { return bidsOf(revalued(b, house, value))[house] }
		pence := max(pays(l.from(0, fee.MaxValue))-l.below(2), 0)
		worth, e := fee.Worth(b, house, pence)
		if e == api.ErrNone {
			if least := pays(0); worth != 0 || least <= pence {
				t.Fatal(b, house, pence, worth, least)
			}
			continue
		}
		if n := pays(worth); n > pence || e != api.OK {
			t.Fatal(b, house, pence, worth, n, e)
		}
		for _, value := range list(worth+1, l.from(worth, fee.MaxValue)+1) {
			if value <= fee.MaxValue && pays(value) <= pence {
				t.Fatal(b, house, pence, worth, value)
			}
		}
		between += count(0 < worth && worth < fee.MaxValue)
	}
	if between < 30 {
		t.Error("values from 1 to 999:", between)
	}
}

// TestP104Edges asks for appeals and values of the chapter's example, and for arguments at their limits.
func TestP104Edges(t *testing.T) {
	for i, x := range []struct {
		b            fee.Bill
		house, value int
		shares       []int
		less         int
		e            api.Errno
	}{
		{three(), 0, 4, list(50, 38, 12), 6, api.OK},
		{three(), 0, 5, list(56, 33, 11), 0, api.OK},
		{three(), 0, 0, list(0, 75, 25), 56, api.OK},
		{three(), 0, 1000, list(100, 0, 0), -44, api.OK},
		{three(), 2, 2, list(50, 30, 20), -9, api.OK},
		{three(), 2, 1001, nil, 0, api.ErrRange},
		{three(), 2, -1, nil, 0, api.ErrRange},
		{three(), 3, 1001, nil, 0, api.ErrNoSuch},
		{three(), -1, 0, nil, 0, api.ErrNoSuch},
		{bill(9, h(1, 0, 8)), 0, 7, nil, 0, api.ErrNone},
		{bill(9, h(1, 0, 8)), 0, 1001, nil, 0, api.ErrRange},
		{bill(9, h(1, 0, 8)), 1, 7, nil, 0, api.ErrNoSuch},
		{bill(8, h(1, 0, 8)), 0, 0, list(8), 0, api.OK},
	} {
		shares, less, e := fee.Appeal(x.b, x.house, x.value)
		if !slices.Equal(shares, x.shares) || less != x.less || e != x.e {
			t.Error(i, shares, less, e)
		}
	}
	held := three()
	held.Houses[0].Least = 40
	for i, x := range []struct {
		b               fee.Bill
		house, pence, n int
		e               api.Errno
	}{
		{three(), 0, 50, 4, api.OK},
		{three(), 0, 49, 3, api.OK},
		{three(), 0, 0, 0, api.OK},
		{three(), 0, 99, 299, api.OK},
		{three(), 0, 100, 1000, api.OK},
		{three(), 0, math.MaxInt, 1000, api.OK},
		{held, 0, 39, 0, api.ErrNone},
		{held, 0, 40, 2, api.OK},
		{held, 2, 0, 0, api.OK},
		{three(), 0, -1, 0, api.ErrRange},
		{three(), 0, math.MinInt, 0, api.ErrRange},
		{three(), 3, -1, 0, api.ErrNoSuch},
		{three(), -1, 50, 0, api.ErrNoSuch},
		{bill(9, h(1, 0, 8)), 0, 9, 0, api.ErrNone},
		{bill(9, h(1, 0, 8)), 0, -1, 0, api.ErrRange},
		// The first one of two houses pays the penny with any value, but 0, for which the second one pays more.
		{bill(1, h(5, 0, 1), h(1, 0, 1)), 0, 0, 0, api.OK},
		{bill(1, h(5, 0, 1), h(0, 0, 1)), 0, 0, 0, api.ErrNone},
		{bill(1, h(5, 0, 1), h(0, 0, 1)), 1, 0, 5, api.OK},
	} {
		if n, e := fee.Worth(x.b, x.house, x.pence); n != x.n || e != x.e {
			t.Error(i, n, e)
		}
	}
}
