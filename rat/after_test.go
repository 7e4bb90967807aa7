package rat_test

import (
	"slices"
	"testing"

	"laystall/api"
	"laystall/rat"
)

// TestP84Every goes through all truths of small colonies, and to each house in which those that are left can be.
func TestP84Every(t *testing.T) {
	l := &luck{9}
	clashes, here := 0, 0
	for range 1500 {
		c := l.colony(small())
		w := ask(c)
		found := false
		after, need := make([]int, len(c.Rooms)), make([]int, len(c.Rooms))
		w.everyTruth(func(truth rat.Truth) {
			found = true
			for house := range c.Rooms {
				n, k := 0, 0
				for from, rats := range truth.Left {
					n += rats * count(w.here[house][from])
					k += rats * count(w.next[house][from])
				}
				after[house], need[house] = max(after[house], n), max(need[house], k)
			}
		})
		gotAfter, e := rat.After(c)
		gotNeed, f := rat.Need(c)
		if !found {
			clashes++
			if gotAfter != nil || gotNeed != nil || e != api.ErrClash || f != api.ErrClash {
				t.Fatal(c, gotAfter, gotNeed, e, f)
			}
			continue
		}
		if !slices.Equal(gotAfter, after) || !slices.Equal(gotNeed, need) || e != api.OK || f != api.OK {
			t.Fatal(c, gotAfter, after, gotNeed, need, e, f)
		}
		here += count(len(c.Nights) > 1 && slices.Max(after) > 0)
	}
	if clashes < 100 || here < 50 {
		t.Error("colonies that clash, and in which rats are left after some nights:", clashes, here)
	}
}

// TestP84Large asks colonies of all sizes by the rooms of all lists of houses.
func TestP84Large(t *testing.T) {
	l := &luck{10}
	moved := 0
	for i := range 600 {
		c := l.open(sizes(i))
		w := ask(c)
		after, e := rat.After(c)
		need, f := rat.Need(c)
		if !slices.Equal(after, w.after(w.here)) || !slices.Equal(need, w.after(w.next)) || e != api.OK || f != api.OK {
			t.Fatal(c, after, need, e, f)
		}
		moved += count(!slices.Equal(after, need))
	}
	if moved < 100 {
		t.Error("colonies in which rats can move on:", moved)
	}
}

// TestP84Edges: without nights rats are where they were, and the next night they can be one run further; rooms that were emptied by traps leave no rat.
func TestP84Edges(t *testing.T) {
	all := quiet(list(4, 5))
	all.Traps = list(4, 5)
	all.Nights = [][]int{{4, 5}}
	one := copyOf(all)
	one.Rooms[0] = 6
	open := copyOf(one)
	open.Nights[0][0] = 3
	moved := copyOf(one)
	moved.Runs = []rat.Run{{A: 1, B: 0}}
	twice := copyOf(moved)
	twice.Nights = [][]int{{4, 5}, {1, 0}}
	for i, x := range []struct {
		c           rat.Colony
		after, need []int
	}{
		{quiet(list(3)), list(3), list(3)},
		{quiet(list(0, 7, 60)), list(0, 7, 60), list(0, 7, 60)},
		{quiet(list(1, 2, 4, 8), rat.Run{A: 0, B: 1}, rat.Run{A: 2, B: 1}), list(1, 2, 4, 8), list(3, 7, 6, 8)},
		{all, list(0, 0), list(0, 0)},
		{one, list(2, 0), list(2, 0)},
		{open, list(0, 0), list(0, 0)},
		{moved, list(2, 0), list(2, 2)},
		{twice, list(0, 0), list(0, 0)},
		{examples(), list(0, 4, 0), list(4, 4, 4)},
	} {
		after, e := rat.After(x.c)
		need, f := rat.Need(x.c)
		if !slices.Equal(after, x.after) || !slices.Equal(need, x.need) || e != api.OK || f != api.OK {
			t.Error(i, after, need, e, f)
		}
	}
}
