package belt_test

import (
	"slices"
	"testing"

	"laystall/api"
	"laystall/belt"
)

// TestP56LossExamples: the chapter's examples, and hands that others make up for.
func TestP56LossExamples(t *testing.T) {
	for i, x := range []struct {
		b    belt.Belt
		want []int
	}{
		{examples(), list(13, 5)},
		{staffed(examples(), 0), list(14)},
		{staffed(examples(), 1, 0), list(5, 13)},
		{staffed(examples(), 0, 1, 0), list(1, 2, 1)},
		{ring(), list(5, 5, 5, 5, 3)},
	} {
		for hand, want := range x.want {
			if n, e := belt.Loss(x.b, hand); n != want || e != api.OK {
				t.Error(i, hand, n, e)
			}
		}
	}
}

// TestP56Loss: the least bounds of a belt, less those of one without the hand.
func TestP56Loss(t *testing.T) {
	l := &luck{12}
	for i := range 200 {
		b := l.belt([]size{large(), even(), small()}[i%3])
		for hand := range b.Hands {
			var others []int
			for h := range b.Hands {
				if h != hand {
					others = append(others, h)
				}
			}
			want := leastBounds(b) - leastBounds(staffed(b, others...))
			if n, e := belt.Loss(b, hand); n != want || e != api.OK {
				t.Fatal(b, hand, n, e, want)
			}
		}
	}
}

// tired is a belt of paper alone, with one hand that takes all, and some rests.
func tired(strength, tires int, rests []int, paper ...int) belt.Belt {
	b := belt.Belt{Hands: []belt.Hand{{Takes: everything(), Strength: strength, Tires: tires, Rests: rests}, {Strength: 40}}}
	for _, n := range paper {
		b.Trays = append(b.Trays, belt.Tray{n})
	}
	return b
}

// TestP56RestExamples: rests that gain, the first one of several, and none.
func TestP56RestExamples(t *testing.T) {
	for i, x := range []struct {
		b          belt.Belt
		tray, most int
		e          api.Errno
	}{
		{tired(9, 4, nil, 9, 1, 9, 9), 1, 23, api.OK},
		{tired(9, 4, nil, 0, 9, 9, 9), 0, 15, api.OK},
		{tired(9, 4, nil, 9, 0, 0, 9), 2, 18, api.OK},
		{tired(9, 4, nil, 9, 0, 9, 0, 9), 1, 19, api.OK},
		{tired(9, 4, nil, 9, 0, 9, 9, 0, 9), 1, 23, api.OK},
		{tired(9, 4, list(1), 9, 0, 9, 9, 0, 9), 4, 32, api.OK},
		{tired(9, 4, list(1, 4), 9, 0, 9, 9, 0, 9), 0, 0, api.ErrNone},
		{tired(9, 4, list(0, 1), 9, 9), 0, 0, api.ErrNone},
		{tired(9, 4, nil, 9), 0, 0, api.ErrNone},
		{tired(9, 0, nil, 9, 1, 9, 9), 0, 0, api.ErrNone},
		// A rest at tray 1 leaves the most as it is: 5 pieces less there, 5 more behind it.
		{tired(10, 5, nil, 10, 5, 5), 0, 0, api.ErrNone},
		{tired(10, 5, nil, 10, 5, 6), 1, 16, api.OK},
		{examples(), 0, 0, api.ErrNone},
	} {
		tray, most, e := belt.Rest(x.b, 0)
		if tray != x.tray || most != x.most || e != x.e {
			t.Error(i, tray, most, e)
		}
		if tray, most, e := belt.Rest(x.b, 1); tray != 0 || most != 0 || e != api.ErrNone {
			t.Error(i, tray, most, e)
		}
	}
}

// TestP56Rest tries all trays, by the least bounds.
func TestP56Rest(t *testing.T) {
	l := &luck{13}
	gains, several := 0, 0
	for i := range 300 {
		s := []size{large(), even()}[i%2]
		if i%3 == 0 {
			s.pieces = 5
		}
		b := l.belt(s)
		for hand, h := range b.Hands {
			best, most, same := -1, leastBounds(b), 0
			for tray := range b.Trays {
				if slices.Contains(h.Rests, tray) {
					continue
				}
				more := copyOf(b)
				more.Hands[hand].Rests = slices.Sorted(slices.Values(append(more.Hands[hand].Rests, tray)))
				n := leastBounds(more)
				same = max(same+count(n == most), count(n > most))
				if n > most {
					best, most, same = tray, n, 0
				}
			}
			tray, n, e := belt.Rest(b, hand)
			if best < 0 {
				if tray != 0 || n != 0 || e != api.ErrNone {
					t.Fatal(b, hand, tray, n, e)
				}
				continue
			}
			if tray != best || n != most || e != api.OK {
				t.Fatal(b, hand, tray, n, e, best, most)
			}
			gains++
			several += count(same > 0)
		}
	}
	if gains < 100 || several < 10 {
		t.Error("rests that gain, and of these those that are the first ones of several:", gains, several)
	}
}

// lineOf goes through all orders of hands: the first one that leaves the fewest pieces, how many, and whether some order leaves more.
func lineOf(b belt.Belt) (best []int, fewest int, differ bool) {
	fewest = -1
	var add func(order []int)
	add = func(order []int) {
		if len(order) < len(b.Hands) {
			for hand := range b.Hands {
				if !slices.Contains(order, hand) {
					add(append(slices.Clone(order), hand))
				}
			}
			return
		}
		left, _ := byRule(staffed(b, order...))
		n := pieces(left...)
		differ = differ || fewest >= 0 && n != fewest
		if fewest < 0 || n < fewest || n == fewest && slices.Compare(order, best) < 0 {
			best, fewest = order, n
		}
	}
	add(nil)
	return best, fewest, differ
}

// TestP56LineExamples: the chapter's examples, hands in any order, and none.
func TestP56LineExamples(t *testing.T) {
	for i, x := range []struct {
		b    belt.Belt
		line []int
		left int
	}{
		{examples(), list(1, 0), 2},
		{staffed(examples(), 1, 0), list(0, 1), 2},
		{staffed(examples(), 0, 1, 0), list(0, 1, 2), 0},
		{staffed(examples(), 0), list(0), 6},
		{staffed(examples()), nil, 20},
		{tired(9, 4, nil, 9, 1, 9, 9), list(0, 1), 17},
		{ring(), list(4, 0, 1, 2, 3), 1},
		{staffed(ring(), 4, 3, 2, 1, 0), list(0, 4, 3, 2, 1), 1},
	} {
		line, left, e := belt.Line(x.b)
		noError(t, e)
		if !slices.Equal(line, x.line) || left != x.left {
			t.Error(i, line, left)
		}
	}
}

// TestP56Line goes through all orders of hands, by the rule.
func TestP56Line(t *testing.T) {
	l := &luck{14}
	differs, turned := 0, 0
	for i := range 300 {
		b := l.belt([]size{large(), even(), small()}[i%3])
		want, fewest, differ := lineOf(b)
		line, left, e := belt.Line(b)
		noError(t, e)
		if !slices.Equal(line, want) || left != fewest {
			t.Fatal(b, line, left, want, fewest)
		}
		differs += count(differ)
		turned += count(!slices.IsSorted(line))
	}
	if differs < 20 || turned < 20 {
		t.Error("belts at which it is not the same how hands stand, and at which they stand otherwise:", differs, turned)
	}
}
