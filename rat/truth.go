package rat

import (
	"slices"

	"laystall/api"
)

// group is rats all of which can have come from the same houses.
type group struct {
	rats int
	from set
}

// tally is how many rats have come from each house.
type tally [MaxHouses]int

// caught returns the rats that were caught: a group for each night and each house, those of the first night first.
func (w work) caught() []group {
	var groups []group
	for night := range len(w.Nights) {
		for house, rats := range w.Nights[night] {
			groups = append(groups, group{rats: rats, from: w.origins(spot{house: house, night: night})})
		}
	}
	return groups
}

// left returns the rats that can be left in some houses: as many as there is room for at all.
func (w work) left(houses set) group {
	return group{rats: sum(w.Rooms...), from: w.leftIn(houses)}
}

// fill lets as many rats as can be come from houses with such rooms, and rats of a group only if no more of the groups before it can. It returns how many of each group have come from each house.
func fill(rooms []int, groups []group) []tally {
	left, came := slices.Clone(rooms), make([]tally, len(groups))
	var asked set
	var add func(g int) bool
	// One rat more has come from a house with room left, or from one that a rat leaves to it which comes from another house instead.
	add = func(g int) bool {
		found := false
	search:
		for house := range groups[g].from.houses() {
			if asked.has(house) {
				continue
			}
			asked |= setOf(house)
			if left[house] > 0 {
				left[house]--
				found = true
			}
			for other := range came {
				if !found && came[other][house] > 0 && add(other) {
					came[other][house]--
					found = true
				}
			}
			if found {
				came[g][house]++
				break search
			}
		}
		return found
	}
	for g := range groups {
		for range groups[g].rats {
			asked = 0
			if !add(g) {
				break
			}
		}
	}
	return came
}

// homeless returns how many of the rats that were caught cannot have come from houses with such rooms.
func (w work) homeless(rooms []int) int {
	groups := w.caught()
	return together(groups) - total(fill(rooms, groups)...)
}

// most returns the greatest number of rats that can be left in some houses.
func (w work) most(houses set) int {
	came := fill(w.Rooms, append(w.caught(), w.left(houses)))
	return total(came[len(came)-1])
}

// start returns how few and how many rats can have come from a house.
func (w work) start(house int) api.Span {
	others := slices.Clone(w.Rooms)
	others[house] = 0
	var here []int
	for _, g := range append(w.caught(), w.left(w.everywhere())) {
		if g.from.has(house) {
			here = append(here, g.rats)
		}
	}
	// As many of these as there is room for can have come from here, and all others from elsewhere, as the colony does not clash.
	return api.Span{Lo: w.homeless(others), Hi: min(sum(here...), w.Rooms[house])}
}

// truth returns one with the most rats, or with the fewest ones.
func (w work) truth(most bool) Truth {
	left := w.left(w.everywhere())
	if !most {
		left.rats = 0
	}
	came := fill(w.Rooms, append(w.caught(), left))
	last := len(came) - 1
	t := Truth{Left: w.numbers(came[last])}
	for _, caught := range came[:last] {
		t.Caught = append(t.Caught, w.numbers(caught))
	}
	return t
}

// numbers returns those of a tally, for the houses that there are.
func (w work) numbers(t tally) []int { return slices.Clone(t[:len(w.Rooms)]) }

// fits reports whether something is a truth.
func (w work) fits(t Truth) bool {
	lists := append(slices.Clone(t.Caught), t.Left)
	for i, g := range append(w.caught(), w.left(w.everywhere())) {
		// Only numbers that rooms allow can be added up without a thought of their size.
		if !w.allows(lists[i], g.from) || i < len(t.Caught) && sum(lists[i]...) != g.rats {
			return false
		}
	}
	for house, room := range w.Rooms {
		var came []int
		for _, list := range lists {
			came = append(came, list[house])
		}
		if sum(came...) > room {
			return false
		}
	}
	return true
}

// allows reports whether so many rats can have come from each house, each list alone, and none but from some of them.
func (w work) allows(numbers []int, from set) bool {
	for house, n := range numbers {
		if !within(n, 0, w.Rooms[house]) || n > 0 && !from.has(house) {
			return false
		}
	}
	return true
}

// short returns by how many houses are short; less than 1 if they are not.
func (w work) short(houses set) int {
	var rats, rooms []int
	for _, g := range w.caught() {
		if g.from.isIn(houses) {
			rats = append(rats, g.rats)
		}
	}
	for house := range houses.houses() {
		rooms = append(rooms, w.Rooms[house])
	}
	return sum(rats...) - sum(rooms...)
}

// together returns how many rats several groups are.
func together(groups []group) int {
	rats := 0
	for _, g := range groups {
		rats += g.rats
	}
	return rats
}

// total returns how many rats there are in several tallies.
func total(tallies ...tally) int {
	rats := 0
	for _, t := range tallies {
		rats += sum(t[:]...)
	}
	return rats
}

// sum adds several numbers.
func sum(numbers ...int) int {
	all := 0
	for _, n := range numbers {
		all += n
	}
	return all
}
