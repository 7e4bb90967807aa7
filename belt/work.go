package belt

import "slices"

// stand is a hand at a tray.
type stand struct{ hand, tray int }

// work is a belt at work: the forces that were asked for.
type work struct {
	Belt
	forces map[stand]int
}

// begin puts a belt to work.
func begin(b Belt) work { return work{Belt: b, forces: map[stand]int{}} }

// force returns that of a hand at a tray.
func (w work) force(hand, tray int) int {
	s := stand{hand: hand, tray: tray}
	force, known := w.forces[s]
	if !known {
		force = w.Hands[hand].force(tray)
		w.forces[s] = force
	}
	return force
}

// rests reports whether a hand lets a tray pass.
func (h Hand) rests(tray int) bool { return slices.Contains(h.Rests, tray) }

// force returns that of a hand at a tray.
func (h Hand) force(tray int) int {
	if h.rests(tray) {
		return 0
	}
	fresh := 0
	for _, rest := range h.Rests {
		if rest < tray {
			fresh = rest + 1
		}
	}
	return max(h.Strength-h.Tires*(tray-fresh), 0)
}

// run lets all trays pass by the rule: what is left of each tray, and what each hand has taken.
func (w work) run() (left, heaps []Tray) {
	left, heaps = slices.Clone(w.Trays), make([]Tray, len(w.Hands))
	for tray := range left {
	hands:
		for hand := range len(w.Hands) {
			force := w.force(hand, tray)
			for m := range w.Hands[hand].takes().materials() {
				for left[tray][m] > 0 {
					if force == 0 {
						continue hands
					}
					force--
					left[tray][m]--
					heaps[hand][m]++
				}
			}
		}
	}
	return left, heaps
}

// pieces returns how many pieces a tray has.
func (t Tray) pieces() int { return sum(t[:]...) }

// together returns all pieces of several trays.
func together(trays ...Tray) Tray {
	var all Tray
	for _, t := range trays {
		for m, n := range t {
			all[m] += n
		}
	}
	return all
}

// percent returns so many of a hundred of a number, rounded up.
func percent(n, of int) int { return (n*of + 99) / 100 }

// sum returns that of several numbers.
func sum(numbers ...int) int {
	all := 0
	for _, n := range numbers {
		all += n
	}
	return all
}
