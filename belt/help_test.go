package belt_test

import (
	"slices"
	"testing"

	"laystall/api"
	"laystall/belt"
)

// takes makes the materials that a hand takes.
func takes(list ...belt.Material) [belt.Kinds]bool {
	var t [belt.Kinds]bool
	for _, m := range list {
		t[m] = true
	}
	return t
}

// everything makes a hand take all materials.
func everything() [belt.Kinds]bool { return [belt.Kinds]bool{true, true, true, true, true} }

// set makes a set.
func set(list ...belt.Material) []belt.Material { return list }

// list makes a list of numbers.
func list(numbers ...int) []int { return numbers }

// examples is the belt of the chapter's examples.
func examples() belt.Belt {
	return belt.Belt{
		Trays: []belt.Tray{{6, 4, 2}, {3, 5}},
		Hands: []belt.Hand{
			{Takes: takes(belt.Paper, belt.Rags), Strength: 8, Tires: 2, Slips: 10},
			{Takes: takes(belt.Paper, belt.Glass), Strength: 3},
		},
	}
}

// luck is a row of numbers that is the same in each run.
type luck struct{ state uint64 }

// below returns a number from 0 to n - 1.
func (l *luck) below(n int) int {
	l.state = l.state*6364136223846793005 + 1442695040888963407
	return int((l.state >> 33) % uint64(n))
}

// from returns a number from lo to hi.
func (l *luck) from(lo, hi int) int { return lo + l.below(hi-lo+1) }

// size tells how great the belts of a test are at most.
type size struct{ trays, hands, pieces, strength, tires int }

// small is the size of belts of which all sharings can be gone through.
func small() size { return size{trays: 3, hands: 3, pieces: 2, strength: 4, tires: 2} }

// large is the size of the greatest belts that there can be, even that of those whose hands take about what there is.
func large() size {
	return size{trays: belt.MaxTrays, hands: belt.MaxHands, pieces: belt.MaxPieces, strength: belt.MaxStrength, tires: belt.MaxTires}
}
func even() size {
	return size{trays: belt.MaxTrays, hands: belt.MaxHands, pieces: 12, strength: 20, tires: 4}
}

// tray returns one on which some materials are lacking.
func (l *luck) tray(most int) belt.Tray {
	var t belt.Tray
	for m := range t {
		t[m] = max(l.from(-most/3, most), 0)
	}
	return t
}

// hand returns one that stands at so many trays.
func (l *luck) hand(s size, trays int) belt.Hand {
	h := belt.Hand{Strength: l.from(0, s.strength), Tires: l.from(0, s.tires), Slips: l.from(0, 100)}
	for m := range h.Takes {
		h.Takes[m] = l.below(2) == 0
	}
	for tray := range trays {
		if l.below(4) == 0 {
			h.Rests = append(h.Rests, tray)
		}
	}
	return h
}

// belt returns a valid one.
func (l *luck) belt(s size) belt.Belt {
	var b belt.Belt
	for range l.from(1, s.trays) {
		b.Trays = append(b.Trays, l.tray(s.pieces))
	}
	for range l.from(0, s.hands) {
		b.Hands = append(b.Hands, l.hand(s, len(b.Trays)))
	}
	return b
}

// copyOf returns a belt that shares no memory with another one.
func copyOf(b belt.Belt) belt.Belt {
	b.Trays, b.Hands = slices.Clone(b.Trays), slices.Clone(b.Hands)
	for i := range b.Hands {
		b.Hands[i].Rests = slices.Clone(b.Hands[i].Rests)
	}
	return b
}

// staffed returns a belt with some of its hands, in that order.
func staffed(b belt.Belt, order ...int) belt.Belt {
	var hands []belt.Hand
	for _, hand := range order {
		hands = append(hands, b.Hands[hand])
	}
	return belt.Belt{Trays: b.Trays, Hands: hands}
}

// forceOf returns that of a hand at a tray, tray by tray, by the words of the chapter.
func forceOf(b belt.Belt, hand, tray int) int {
	h, worked := b.Hands[hand], 0
	for t := range tray {
		worked++
		if slices.Contains(h.Rests, t) {
			worked = 0
		}
	}
	if slices.Contains(h.Rests, tray) || h.Strength < h.Tires*worked {
		return 0
	}
	return h.Strength - h.Tires*worked
}

// pieces returns how many there are on some trays.
func pieces(trays ...belt.Tray) int {
	n := 0
	for _, t := range trays {
		for _, p := range t {
			n += p
		}
	}
	return n
}

// byRule returns what is left of each tray, and what each hand takes, by the words of the chapter.
func byRule(b belt.Belt) (left, heaps []belt.Tray) {
	heaps = make([]belt.Tray, len(b.Hands))
	for i, t := range b.Trays {
		for hand, h := range b.Hands {
			force := forceOf(b, hand, i)
			for m, is := range h.Takes {
				if is {
					n := min(force, t[m])
					t[m], force, heaps[hand][m] = t[m]-n, force-n, heaps[hand][m]+n
				}
			}
		}
		left = append(left, t)
	}
	return left, heaps
}

// isSharing reports whether hands can take pieces of a tray so, by the words of the chapter.
func isSharing(b belt.Belt, tray int, sharing []belt.Tray) bool {
	if len(sharing) != len(b.Hands) {
		return false
	}
	left := b.Trays[tray]
	for hand, t := range sharing {
		force := forceOf(b, hand, tray)
		for m, n := range t {
			if n < 0 || n > left[m] || n > force || n > 0 && !b.Hands[hand].Takes[m] {
				return false
			}
			left[m] -= n
			force -= n
		}
	}
	return true
}

// sharings goes through all sharings of a tray.
func sharings(b belt.Belt, tray int, visit func(sharing []belt.Tray)) {
	sharing := make([]belt.Tray, len(b.Hands))
	left := b.Trays[tray]
	var add func(hand, m, force int)
	add = func(hand, m, force int) {
		if m == belt.Kinds {
			hand, m = hand+1, 0
			if hand < len(b.Hands) {
				force = forceOf(b, hand, tray)
			}
		}
		if hand >= len(b.Hands) {
			visit(sharing)
			return
		}
		add(hand, m+1, force)
		if b.Hands[hand].Takes[m] {
			for n := 1; n <= min(force, left[m]); n++ {
				sharing[hand][m] = n
				left[m] -= n
				add(hand, m+1, force-n)
				left[m] += n
				sharing[hand][m] = 0
			}
		}
	}
	add(-1, belt.Kinds, 0)
}

// sets are all that there are.
func sets() [][]belt.Material {
	list := [][]belt.Material{nil}
	for m := range belt.Material(belt.Kinds) {
		for _, s := range slices.Clone(list) {
			list = append(list, append(slices.Clone(s), m))
		}
	}
	return list
}

// behind returns the forces behind a set at a tray.
func behind(b belt.Belt, tray int, materials []belt.Material) int {
	n := 0
	for hand, h := range b.Hands {
		if slices.ContainsFunc(materials, func(m belt.Material) bool { return h.Takes[m] }) {
			n += forceOf(b, hand, tray)
		}
	}
	return n
}

// boundOf returns by how many pieces a set bounds a tray, by the words of the chapter.
func boundOf(b belt.Belt, tray int, materials []belt.Material) int {
	n := behind(b, tray, materials)
	for m, on := range b.Trays[tray] {
		if !slices.Contains(materials, belt.Material(m)) {
			n += on
		}
	}
	return n
}

// leastBound returns the least number by which a set bounds a tray.
func leastBound(b belt.Belt, tray int) int {
	n := pieces(b.Trays[tray])
	for _, s := range sets() {
		n = min(n, boundOf(b, tray, s))
	}
	return n
}

// leastBounds returns the sum of these numbers of all trays.
func leastBounds(b belt.Belt) int {
	n := 0
	for tray := range b.Trays {
		n += leastBound(b, tray)
	}
	return n
}

// lackOf returns by how many pieces the needs of a set are greater than the forces behind it.
func lackOf(b belt.Belt, left belt.Tray, tray int, materials []belt.Material) int {
	n := -behind(b, tray, materials)
	for _, m := range materials {
		n += max(b.Trays[tray][m]-left[m], 0)
	}
	return n
}

// heldTray returns the first tray that some set holds up; -1 if there is none.
func heldTray(b belt.Belt, left belt.Tray) int {
	for tray := range b.Trays {
		if slices.ContainsFunc(sets(), func(s []belt.Material) bool { return lackOf(b, left, tray, s) > 0 }) {
			return tray
		}
	}
	return -1
}

// count is 1 for what is so.
func count(is bool) int {
	if is {
		return 1
	}
	return 0
}

// noError fails a test if a call that has no reason for it returns an error.
func noError(t *testing.T, errors ...api.Errno) {
	t.Helper()
	for _, e := range errors {
		if e != api.OK {
			t.Fatal("error", e)
		}
	}
}
