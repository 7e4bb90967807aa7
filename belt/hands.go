package belt

import (
	"cmp"
	"slices"
)

// mosts returns the most of each tray.
func (w work) mosts() []int {
	list := make([]int, len(w.Trays))
	for tray := range list {
		list[tray] = together(w.emptying(tray).share()...).pieces()
	}
	return list
}

// most returns that of the belt.
func (w work) most() int { return sum(w.mosts()...) }

// staffed returns the belt with some of its hands alone, in that order.
func (w work) staffed(order []int) work {
	b := Belt{Trays: w.Trays}
	for _, hand := range order {
		b.Hands = append(b.Hands, w.Hands[hand])
	}
	return begin(b)
}

// without returns the belt without a hand.
func (w work) without(hand int) work {
	b := w.Belt
	b.Hands = slices.Delete(slices.Clone(b.Hands), hand, hand+1)
	return begin(b)
}

// rested returns the belt in which a hand lets one tray more pass.
func (w work) rested(hand, tray int) work {
	b := w.Belt
	b.Hands = slices.Clone(b.Hands)
	rests := append(slices.Clone(b.Hands[hand].Rests), tray)
	slices.Sort(rests)
	b.Hands[hand].Rests = rests
	return begin(b)
}

// rest returns the tray with which one rest more of a hand makes the most greatest, the most then, and whether there is one that makes it greater than it is.
func (w work) rest(hand int) (tray, most int, found bool) {
	most = w.most()
	for t := range w.Trays {
		if w.Hands[hand].rests(t) {
			continue
		}
		if n := w.rested(hand, t).most(); n > most {
			tray, most, found = t, n, true
		}
	}
	return tray, most, found
}

// line returns the first order of hands that leaves the fewest pieces by the rule, and how many.
func (w work) line() (best []int, fewest int) {
	for i, order := range orders(len(w.Hands)) {
		left, _ := w.staffed(order).run()
		if n := together(left...).pieces(); i == 0 || n < fewest {
			best, fewest = order, n
		}
	}
	return best, fewest
}

// teams returns all lists of some of so many hands, in increasing order: the shorter one first, and of two that are as long the one that comes first.
func teams(hands int) [][]int {
	var list [][]int
	for members := range 1 << hands {
		var team []int
		for hand := range hands {
			if members>>hand&1 == 1 {
				team = append(team, hand)
			}
		}
		list = append(list, team)
	}
	slices.SortFunc(list, func(a, b []int) int { return cmp.Or(len(a)-len(b), slices.Compare(a, b)) })
	return list
}

// orders returns all orders of so many hands, in lexicographic order.
func orders(hands int) [][]int {
	var list [][]int
	var add func(order []int)
	add = func(order []int) {
		if len(order) == hands {
			list = append(list, order)
		}
		for hand := range hands {
			if !slices.Contains(order, hand) {
				add(append(slices.Clone(order), hand))
			}
		}
	}
	add(nil)
	return list
}
