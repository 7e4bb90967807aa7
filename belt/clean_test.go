package belt_test

import (
	"slices"
	"testing"

	"laystall/api"
	"laystall/belt"
)

// cleans asks whether all trays can be kept clean, and which one cannot: the first tray that is held up, or -1.
func cleans(t *testing.T, b belt.Belt, left belt.Tray, held int) {
	t.Helper()
	is, e := belt.Clean(b, left)
	tray, s, f := belt.Held(b, left)
	noError(t, e)
	if is != (held < 0) {
		t.Fatal(b, left, is, held)
	}
	if is {
		if tray != 0 || s != nil || f != api.ErrNone {
			t.Fatal(b, left, tray, s, f)
		}
		return
	}
	n, g := belt.HeldUp(b, left, tray, s)
	noError(t, f, g)
	if tray != held || n < 1 || n != lackOf(b, left, tray, s) {
		t.Fatal(b, left, tray, held, s, n)
	}
}

// TestP55Examples: the chapter's examples, and other pieces that may be left.
func TestP55Examples(t *testing.T) {
	late := examples()
	late.Trays[1] = belt.Tray{9, 0, 0, 1}
	for i, x := range []struct {
		b    belt.Belt
		left belt.Tray
		held int
		few  []int
		e    api.Errno
	}{
		{examples(), belt.Tray{1}, -1, list(0, 1), api.OK},
		{examples(), belt.Tray{}, 0, nil, api.ErrNone},
		{examples(), belt.Tray{0, 0, 0, 60, 60}, 0, nil, api.ErrNone},
		{examples(), belt.Tray{0, 0, 1}, -1, list(0, 1), api.OK},
		{examples(), belt.Tray{2, 0, 2}, -1, list(0), api.OK},
		{examples(), belt.Tray{1, 0, 2}, -1, list(0, 1), api.OK},
		{examples(), belt.Tray{6, 5, 2}, -1, nil, api.OK},
		{examples(), belt.Tray{60, 60, 60, 60, 60}, -1, nil, api.OK},
		{examples(), belt.Tray{6, 5, 0}, -1, list(1), api.OK},
		{examples(), belt.Tray{3, 5, 2}, -1, list(0), api.OK},
		{late, belt.Tray{1}, 1, nil, api.ErrNone},
		{late, belt.Tray{0, 0, 0, 1}, 0, nil, api.ErrNone},
		{late, belt.Tray{1, 0, 0, 1}, -1, list(0, 1), api.OK},
		{staffed(examples()), belt.Tray{6, 4, 2}, 1, nil, api.ErrNone},
		{staffed(examples()), belt.Tray{6, 5, 2}, -1, nil, api.OK},
		{staffed(examples(), 1, 0, 0), belt.Tray{2, 0, 2}, -1, list(1), api.OK},
		{staffed(examples(), 1, 0, 0), belt.Tray{1, 0, 2}, -1, list(0, 1), api.OK},
		{staffed(examples(), 1, 0, 0), belt.Tray{0, 0, 2}, -1, list(0, 1), api.OK},
		{staffed(examples(), 0, 0, 1), belt.Tray{0, 0, 2}, -1, list(0, 1), api.OK},
	} {
		cleans(t, x.b, x.left, x.held)
		if few, e := belt.Fewest(x.b, x.left); !slices.Equal(few, x.few) || e != x.e {
			t.Error(i, few, e)
		}
	}
}

// TestP55AllSharings goes through all sharings of small trays for one that leaves no more than may be left.
func TestP55AllSharings(t *testing.T) {
	l := &luck{8}
	clean, later := 0, 0
	for range 400 {
		b := l.belt(small())
		left := l.tray(2)
		held := -1
		for tray := range b.Trays {
			found := false
			sharings(b, tray, func(sharing []belt.Tray) {
				rest := b.Trays[tray]
				for _, s := range sharing {
					for m, n := range s {
						rest[m] -= n
					}
				}
				for m := range rest {
					rest[m] = max(rest[m]-left[m], 0)
				}
				found = found || rest == belt.Tray{}
			})
			if !found {
				held = tray
				break
			}
		}
		cleans(t, b, left, held)
		clean += count(held < 0)
		later += count(held > 0)
	}
	if clean < 40 || later < 40 {
		t.Error("clean, and held up behind the first tray:", clean, later)
	}
}

// mild returns what may be left of the trays of a belt, so that some of them can be kept clean.
func (l *luck) mild(b belt.Belt) belt.Tray {
	var left belt.Tray
	for tray := range b.Trays {
		rest := b.Trays[tray]
		sharing, _ := belt.Share(b, tray)
		for _, s := range sharing {
			for m, n := range s {
				rest[m] -= n
			}
		}
		for m, n := range rest {
			left[m] = max(left[m], n)
		}
	}
	for range l.below(3) {
		m := l.below(belt.Kinds)
		left[m] = max(left[m]-l.from(0, 2), 0)
	}
	return left
}

// TestP55Held: great trays are held up by sets, the first one is told, and no other one can be kept clean.
func TestP55Held(t *testing.T) {
	l := &luck{9}
	clean, later := 0, 0
	for i := range 600 {
		b := l.belt([]size{large(), even()}[i%2])
		left := l.mild(b)
		held := heldTray(b, left)
		cleans(t, b, left, held)
		clean += count(held < 0)
		later += count(held > 0)
	}
	if clean < 100 || later < 50 {
		t.Error("clean, and held up behind the first tray:", clean, later)
	}
}

// TestP55HeldUp: by how much each set holds up each tray.
func TestP55HeldUp(t *testing.T) {
	for i, x := range []struct {
		left belt.Tray
		tray int
		set  []belt.Material
		want int
		e    api.Errno
	}{
		{belt.Tray{}, 0, set(belt.Paper, belt.Rags, belt.Glass), 1, api.OK},
		{belt.Tray{1}, 0, set(belt.Paper, belt.Rags, belt.Glass), 0, api.ErrWrong},
		{belt.Tray{0, 60}, 0, set(belt.Paper, belt.Rags, belt.Glass), 0, api.ErrWrong},
		{belt.Tray{}, 0, set(belt.Rags), 0, api.ErrWrong},
		{belt.Tray{}, 0, nil, 0, api.ErrWrong},
		{belt.Tray{}, 1, set(belt.Paper, belt.Rags, belt.Glass), 0, api.ErrWrong},
		{belt.Tray{60, 60, 60, 60, 60}, 0, set(belt.Paper), 0, api.ErrWrong},
	} {
		if n, e := belt.HeldUp(examples(), x.left, x.tray, x.set); n != x.want || e != x.e {
			t.Error(i, n, e)
		}
	}
	l := &luck{10}
	holds := 0
	for range 200 {
		b := l.belt(even())
		left := l.mild(b)
		for tray := range b.Trays {
			for _, s := range sets() {
				n, e := belt.HeldUp(b, left, tray, s)
				want := lackOf(b, left, tray, s)
				if want < 1 && (n != 0 || e != api.ErrWrong) || want > 0 && (n != want || e != api.OK) {
					t.Fatal(b, left, tray, s, n, e, want)
				}
				holds += count(want > 0)
			}
		}
	}
	if holds < 100 {
		t.Error("sets that hold trays up:", holds)
	}
}

// fewestOf returns the fewest hands with which alone no tray is held up, and whether there are some.
func fewestOf(b belt.Belt, left belt.Tray) ([]int, bool) {
	var best []int
	found := false
	for members := range 1 << len(b.Hands) {
		var team []int
		for hand := range b.Hands {
			if members&(1<<hand) != 0 {
				team = append(team, hand)
			}
		}
		if heldTray(staffed(b, team...), left) >= 0 {
			continue
		}
		if !found || len(team) < len(best) || len(team) == len(best) && slices.Compare(team, best) < 0 {
			best, found = team, true
		}
	}
	return best, found
}

// TestP55Fewest goes through all lists of hands.
func TestP55Fewest(t *testing.T) {
	l := &luck{11}
	sizes := map[int]int{}
	for i := range 1500 {
		b := l.belt([]size{large(), even(), small()}[i%3])
		// Hands that take much, so that some of them can be left out.
		for hand := range b.Hands {
			if l.below(2) == 0 {
				b.Hands[hand].Takes = everything()
			}
		}
		left := l.mild(b)
		if l.below(2) == 0 {
			left = l.mild(staffed(b, list(0, 1, 2, 3, 4)[:len(b.Hands)/2]...))
		}
		few, e := belt.Fewest(b, left)
		want, found := fewestOf(b, left)
		if !found {
			if few != nil || e != api.ErrNone {
				t.Fatal(b, left, few, e)
			}
			continue
		}
		if !slices.Equal(few, want) || e != api.OK {
			t.Fatal(b, left, few, e, want)
		}
		sizes[len(few)]++
	}
	for size := range 5 {
		if sizes[size] < 10 {
			t.Error("by how many hands are enough:", sizes)
		}
	}
}
