package rat

// after returns for each house how many rats can be there after the last night.
func (w work) after() []int {
	after := make([]int, len(w.Rooms))
	for house := range after {
		after[house] = w.most(setOf(house))
	}
	return after
}

// haunts returns the houses in which a rat can be after the last night.
func (w work) haunts() set {
	haunts := set(0)
	for house, rats := range w.after() {
		if rats > 0 {
			haunts |= setOf(house)
		}
	}
	return haunts
}

// reached returns the houses that baits in some houses reach.
func (c Colony) reached(houses set, reach int) set {
	for range reach {
		houses = c.near(houses)
	}
	return houses
}

// baits returns the first of the shortest lists of houses in which baits reach all haunts.
func (w work) baits(reach int) []int {
	haunts := w.haunts()
	enough := choice{is: func(s set) bool { return haunts.isIn(w.reached(s, reach)) }, better: fewer}
	baits, _ := enough.best(w.everywhere())
	return baits
}

// apart returns the first of the longest lists of haunts that are apart.
func (w work) apart(reach int) []int {
	haunts := w.haunts()
	single := choice{is: func(s set) bool { return s.isIn(haunts) && w.areApart(s, reach) }, better: more}
	apart, _ := single.best(w.everywhere())
	return apart
}

// areApart reports whether no bait reaches two of some houses.
func (w work) areApart(houses set, reach int) bool {
	for bait := range w.Rooms {
		if len((houses & w.reached(setOf(bait), reach)).list()) > 1 {
			return false
		}
	}
	return true
}
