package belt_test

import (
	"slices"
	"testing"

	"laystall/belt"
)

// TestP52Examples: the chapter's examples, hands in another order, hands that rest, and belts without hands.
func TestP52Examples(t *testing.T) {
	rests := examples()
	rests.Hands[0].Rests = list(0)
	spent := examples()
	spent.Hands[0].Strength, spent.Hands[1].Strength = 0, 2
	for i, x := range []struct {
		b           belt.Belt
		left, heaps []belt.Tray
		wrong       []int
	}{
		{examples(), []belt.Tray{{0, 2}, {0, 2}}, []belt.Tray{{9, 5}, {0, 0, 2}}, list(2, 0)},
		{staffed(examples(), 1, 0), []belt.Tray{{0, 0, 2}, {}}, []belt.Tray{{6}, {3, 9}}, list(0, 2)},
		{staffed(examples(), 0, 0, 1), []belt.Tray{{}, {}}, []belt.Tray{{9, 5}, {0, 4}, {0, 0, 2}}, list(2, 1, 0)},
		{rests, []belt.Tray{{3, 4, 2}, {}}, []belt.Tray{{3, 5}, {3}}, list(1, 0)},
		{spent, []belt.Tray{{4, 4, 2}, {1, 5}}, []belt.Tray{{}, {4}}, list(0, 0)},
		{staffed(examples()), examples().Trays, nil, nil},
		{belt.Belt{Trays: []belt.Tray{{1, 1, 1, 1, 1}}, Hands: []belt.Hand{{Takes: takes(belt.Tin, belt.Rags, belt.Bone), Strength: 2, Slips: 100}}}, []belt.Tray{{1, 0, 1, 0, 1}}, []belt.Tray{{0, 1, 0, 1}}, list(2)},
	} {
		left, e := belt.Run(x.b)
		heaps, f := belt.Heaps(x.b)
		wrong, g := belt.Wrong(x.b)
		noError(t, e, f, g)
		if !slices.Equal(left, x.left) || !slices.Equal(heaps, x.heaps) || !slices.Equal(wrong, x.wrong) {
			t.Error(i, left, heaps, wrong)
		}
	}
}

// TestP52Rule: what is left, and what hands take, hand by hand and material by material.
func TestP52Rule(t *testing.T) {
	l := &luck{2}
	spent, rest := 0, 0
	for i := range 600 {
		b := l.belt([]size{large(), even(), small()}[i%3])
		left, e := belt.Run(b)
		heaps, f := belt.Heaps(b)
		noError(t, e, f)
		wantLeft, wantHeaps := byRule(b)
		if !slices.Equal(left, wantLeft) || !slices.Equal(heaps, wantHeaps) {
			t.Fatal(b, left, wantLeft, heaps, wantHeaps)
		}
		spent += count(pieces(left...) > 0)
		rest += count(pieces(left...) < pieces(b.Trays...)/2)
	}
	if spent < 100 || rest < 100 {
		t.Error("belts of which something is left, and of which little is:", spent, rest)
	}
}

// TestP52Wrong: each number of pieces with each number of slips, of several materials and trays together.
func TestP52Wrong(t *testing.T) {
	for _, x := range []struct{ pieces, slips, want int }{
		{0, 0, 0}, {0, 100, 0}, {1, 0, 0}, {1, 1, 1}, {1, 99, 1}, {1, 100, 1}, {99, 1, 1}, {100, 1, 1}, {101, 1, 2},
		{14, 10, 2}, {10, 10, 1}, {11, 10, 2}, {50, 2, 1}, {51, 2, 2}, {60, 50, 30}, {61, 50, 31}, {200, 99, 198}, {320, 100, 320}, {7, 30, 3},
	} {
		b := belt.Belt{Hands: []belt.Hand{{Takes: everything(), Strength: 40, Slips: x.slips}}}
		for i := range belt.MaxTrays {
			n := min(x.pieces-pieces(b.Trays...), 40)
			tray := belt.Tray{}
			tray[i%belt.Kinds] = n / 2
			tray[(i+1)%belt.Kinds] = n - n/2
			b.Trays = append(b.Trays, tray)
		}
		wrong, e := belt.Wrong(b)
		noError(t, e)
		if !slices.Equal(wrong, list(x.want)) {
			t.Error(x, wrong)
		}
	}
	l := &luck{3}
	for range 300 {
		b := l.belt(even())
		wrong, e := belt.Wrong(b)
		noError(t, e)
		_, heaps := byRule(b)
		for hand, heap := range heaps {
			// The least number of which a hundred are no fewer.
			want := 0
			for 100*want < pieces(heap)*b.Hands[hand].Slips {
				want++
			}
			if len(wrong) != len(heaps) || wrong[hand] != want {
				t.Fatal(b, wrong, hand, want)
			}
		}
	}
}
