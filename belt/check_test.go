package belt_test

import (
	"math"
	"slices"
	"testing"

	"laystall/api"
	"laystall/belt"
)

// TestP51Counts: how many trays and hands there can be.
func TestP51Counts(t *testing.T) {
	for _, x := range []struct {
		trays, hands int
		e            api.Errno
	}{
		{0, 0, api.ErrCount},
		{0, 2, api.ErrCount},
		{1, 0, api.OK},
		{1, 5, api.OK},
		{1, 6, api.ErrCount},
		{8, 5, api.OK},
		{9, 0, api.ErrCount},
		{9, 6, api.ErrCount},
		{500, 500, api.ErrCount},
	} {
		b := belt.Belt{Trays: make([]belt.Tray, x.trays), Hands: make([]belt.Hand, x.hands)}
		if e := belt.Check(b); e != x.e {
			t.Error(x, e)
		}
	}
}

// TestP51Numbers: each number of a belt at its limits, and beyond.
func TestP51Numbers(t *testing.T) {
	for i, x := range []struct {
		most  int
		field func(b *belt.Belt) *int
	}{
		{60, func(b *belt.Belt) *int { return &b.Trays[0][0] }},
		{60, func(b *belt.Belt) *int { return &b.Trays[0][2] }},
		{60, func(b *belt.Belt) *int { return &b.Trays[1][4] }},
		{40, func(b *belt.Belt) *int { return &b.Hands[0].Strength }},
		{40, func(b *belt.Belt) *int { return &b.Hands[1].Strength }},
		{10, func(b *belt.Belt) *int { return &b.Hands[0].Tires }},
		{10, func(b *belt.Belt) *int { return &b.Hands[1].Tires }},
		{100, func(b *belt.Belt) *int { return &b.Hands[0].Slips }},
		{100, func(b *belt.Belt) *int { return &b.Hands[1].Slips }},
	} {
		for _, n := range []int{math.MinInt, -1, 0, x.most, x.most + 1, math.MaxInt} {
			b := examples()
			*x.field(&b) = n
			want := api.OK
			if n < 0 || n > x.most {
				want = api.ErrRange
			}
			if e := belt.Check(b); e != want {
				t.Error(i, n, e)
			}
		}
	}
}

// TestP51Rests: trays that hands let pass, in order and not, on a belt of three trays.
func TestP51Rests(t *testing.T) {
	for i, x := range []struct {
		first, second []int
		e             api.Errno
	}{
		{nil, nil, api.OK},
		{list(0), list(0), api.OK},
		{list(0, 1, 2), list(1, 2), api.OK},
		{list(0, 2), list(2), api.OK},
		{list(3), nil, api.ErrNoSuch},
		{nil, list(-1), api.ErrNoSuch},
		{list(0, 1, 2, 3), nil, api.ErrNoSuch},
		{list(math.MinInt), list(math.MaxInt), api.ErrNoSuch},
		{list(1, 0), list(3), api.ErrNoSuch},
		{list(2, 3, 0), nil, api.ErrNoSuch},
		{list(1, 0), nil, api.ErrOrder},
		{nil, list(2, 1), api.ErrOrder},
		{list(1, 1), nil, api.ErrOrder},
		{list(0, 2, 1), nil, api.ErrOrder},
		{nil, list(0, 1, 2, 2), api.ErrOrder},
		{slices.Repeat(list(0, 1, 2), 9), nil, api.ErrOrder},
	} {
		b := examples()
		b.Trays = append(b.Trays, belt.Tray{})
		b.Hands[0].Rests, b.Hands[1].Rests = x.first, x.second
		if e := belt.Check(b); e != x.e {
			t.Error(i, e)
		}
	}
}

// TestP51ForceExamples: the chapter's example, and hands that are spent, rest once or often, and have no force.
func TestP51ForceExamples(t *testing.T) {
	for _, x := range []struct {
		h    belt.Hand
		want []int
	}{
		{examples().Hands[0], list(8, 6, 4, 2, 0, 0)},
		{examples().Hands[1], list(3, 3, 3, 3, 3, 3)},
		{belt.Hand{Strength: 9, Tires: 4}, list(9, 5, 1, 0, 0, 0)},
		{belt.Hand{Strength: 9, Tires: 4, Rests: list(0)}, list(0, 9, 5, 1, 0, 0)},
		{belt.Hand{Strength: 9, Tires: 4, Rests: list(1, 4)}, list(9, 0, 9, 5, 0, 9)},
		{belt.Hand{Strength: 9, Tires: 4, Rests: list(1, 2, 5)}, list(9, 0, 0, 9, 5, 0)},
		{belt.Hand{Strength: 9, Rests: list(3)}, list(9, 9, 9, 0, 9, 9)},
		{belt.Hand{Strength: 9, Tires: 9, Rests: list(0, 1, 2, 3, 4, 5)}, list(0, 0, 0, 0, 0, 0)},
		{belt.Hand{Tires: 10}, list(0, 0, 0, 0, 0, 0)},
	} {
		// What is on the trays, and what the hand takes, is the same to its force.
		b := belt.Belt{Trays: make([]belt.Tray, 6), Hands: []belt.Hand{{}, x.h}}
		b.Trays[2] = belt.Tray{5, 5, 5, 5, 5}
		for tray, want := range x.want {
			if n, e := belt.Force(b, 1, tray); n != want || e != api.OK {
				t.Error(x.h, tray, n, e)
			}
		}
	}
}

// TestP51Force: forces of all hands, tray by tray.
func TestP51Force(t *testing.T) {
	l := &luck{1}
	for range 300 {
		b := l.belt(large())
		for hand := range b.Hands {
			for tray := range b.Trays {
				if n, e := belt.Force(b, hand, tray); n != forceOf(b, hand, tray) || e != api.OK {
					t.Fatal(b, hand, tray, n, e)
				}
			}
		}
	}
}
