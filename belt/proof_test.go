package belt_test

import (
	"testing"

	"laystall/api"
	"laystall/belt"
)

// TestP54Examples: sets that bound the trays of the chapter's examples, and what is no set.
func TestP54Examples(t *testing.T) {
	for i, x := range []struct {
		tray int
		set  []belt.Material
		want int
		e    api.Errno
	}{
		{0, nil, 12, api.OK},
		{0, set(belt.Paper, belt.Rags, belt.Glass), 11, api.OK},
		{0, set(belt.Paper, belt.Rags, belt.Glass, belt.Tin, belt.Bone), 11, api.OK},
		{0, set(belt.Rags), 16, api.OK},
		{0, set(belt.Glass), 13, api.OK},
		{0, set(belt.Tin, belt.Bone), 12, api.OK},
		{1, nil, 8, api.OK},
		{1, set(belt.Paper, belt.Rags), 9, api.OK},
		{1, set(belt.Rags), 9, api.OK},
		{1, set(belt.Rags, belt.Paper), 0, api.ErrOrder},
		{1, set(belt.Rags, belt.Rags), 0, api.ErrOrder},
		{1, set(belt.Paper, belt.Rags, belt.Glass, belt.Tin, belt.Bone, belt.Paper), 0, api.ErrOrder},
		{1, set(belt.Rags, 5, belt.Paper), 0, api.ErrNoSuch},
		{1, set(-1), 0, api.ErrNoSuch},
		{1, make([]belt.Material, 1000), 0, api.ErrOrder},
	} {
		if n, e := belt.Bounds(examples(), x.tray, x.set); n != x.want || e != x.e {
			t.Error(i, n, e)
		}
	}
}

// TestP54Bounds: all sets bound all trays as the chapter says; one that Cut returns does so by the most.
func TestP54Bounds(t *testing.T) {
	l := &luck{7}
	proofs := map[int]int{}
	for i := range 300 {
		b := l.belt([]size{large(), even(), small()}[i%3])
		mosts, _, e := belt.Most(b)
		noError(t, e)
		for tray := range b.Trays {
			for _, s := range sets() {
				if n, e := belt.Bounds(b, tray, s); n != boundOf(b, tray, s) || n < mosts[tray] || e != api.OK {
					t.Fatal(b, tray, s, n, e)
				}
			}
			s, e := belt.Cut(b, tray)
			n, f := belt.Bounds(b, tray, s)
			noError(t, e, f)
			if n != mosts[tray] || boundOf(b, tray, s) != mosts[tray] {
				t.Fatal(b, tray, s, n, mosts)
			}
			proofs[len(s)]++
		}
	}
	for size := range belt.Kinds {
		if proofs[size] < 20 {
			t.Error("sets by how many materials they have:", proofs)
		}
	}
}
