package belt

// job is a tray of a belt at work, of which hands are to take some pieces of each material.
type job struct {
	work
	tray   int
	wanted func(m Material) int
}

// emptying returns the job to take all pieces of a tray.
func (w work) emptying(tray int) job {
	return job{work: w, tray: tray, wanted: func(m Material) int { return w.Trays[tray][m] }}
}

// tally returns how many pieces of each material are wanted.
func (j job) tally() Tray {
	var t Tray
	for m := range everything.materials() {
		t[m] = j.wanted(m)
	}
	return t
}

// share returns a sharing in which as much as can be is taken of what is wanted, and nothing else.
func (j job) share() []Tray {
	sharing := make([]Tray, len(j.Hands))
	var asked [MaxHands]bool
	var place func(m Material) bool
	// One piece more is taken by a hand with force left, or by one that another hand relieves of a piece.
	place = func(m Material) bool {
		for hand, h := range j.Hands {
			if asked[hand] || !h.Takes[m] {
				continue
			}
			asked[hand] = true
			if sharing[hand].pieces() < j.force(hand, j.tray) {
				sharing[hand][m]++
				return true
			}
			for other, n := range sharing[hand] {
				if n > 0 && place(Material(other)) {
					sharing[hand][other]--
					sharing[hand][m]++
					return true
				}
			}
		}
		return false
	}
	for m := range everything.materials() {
		for range j.wanted(m) {
			asked = [MaxHands]bool{}
			if !place(m) {
				break
			}
		}
	}
	return sharing
}

// isSharing reports whether hands can take pieces so, and nothing that is not wanted.
func (j job) isSharing(sharing []Tray) bool {
	most := j.tally()
	for hand, t := range sharing {
		for m, n := range t {
			if !within(n, 0, most[m]) || n > 0 && !j.Hands[hand].Takes[m] {
				return false
			}
		}
		if t.pieces() > j.force(hand, j.tray) {
			return false
		}
	}
	for m, n := range together(sharing...) {
		if n > most[m] {
			return false
		}
	}
	return true
}

// done reports whether hands can take all that is wanted.
func (j job) done() bool { return together(j.share()...) == j.tally() }

// behind returns the forces behind a set.
func (j job) behind(s set) int {
	var forces []int
	for hand, h := range j.Hands {
		if h.takes()&s != 0 {
			forces = append(forces, j.force(hand, j.tray))
		}
	}
	return sum(forces...)
}

// lack returns by how many pieces more is wanted of the materials of a set than the forces behind it can take.
func (j job) lack(s set) int {
	var pieces []int
	for m := range s.materials() {
		pieces = append(pieces, j.wanted(m))
	}
	return sum(pieces...) - j.behind(s)
}

// bound returns how much is taken at most, by a set: all that is wanted, but for what the set lacks.
func (j job) bound(s set) int { return j.tally().pieces() - j.lack(s) }

// cut returns the set that bounds most: the one that lacks most.
func (j job) cut() set {
	best := set(0)
	for s := range everything + 1 {
		if j.lack(s) > j.lack(best) {
			best = s
		}
	}
	return best
}
