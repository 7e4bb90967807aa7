package lot

// rest is the sacks that are left when some lots are sold, and how many lots more can be.
type rest struct {
	sacks mix
	lots  int
}

// without returns what is left when one lot more is sold.
func (r rest) without(lot mix) rest { return rest{sacks: r.sacks.without(lot), lots: r.lots - 1} }

// sale is a lot to be sold next, and what it brings with the best ones after it.
type sale struct {
	lot    mix
	brings int
}

// best returns a plan that brings most, and how much.
func (w work) best() (plan []mix, brings int) {
	known := map[rest]sale{}
	var next func(r rest) sale
	next = func(r rest) sale {
		best, asked := known[r]
		if asked || r.lots == 0 {
			return best
		}
		for l := range r.sacks.lots() {
			n := w.brings(l)
			// The order of lots is free: none of those after this one needs to bring more than it does.
			if n*r.lots <= best.brings {
				continue
			}
			n += next(r.without(l)).brings
			if n > best.brings {
				best = sale{lot: l, brings: n}
			}
		}
		known[r] = best
		return best
	}
	r := rest{sacks: w.stock(), lots: w.Lots}
	brings = next(r).brings
	for next(r).brings > 0 {
		lot := next(r).lot
		plan = append(plan, lot)
		r = r.without(lot)
	}
	return plan, brings
}

// exceeds reports whether some lot brings more than its sacks cost at some prices.
func (w work) exceeds(prices []int) bool {
	found := false
search:
	for l := range w.stock().lots() {
		gain := w.brings(l)
		for picking, price := range prices {
			gain -= l[picking] * price
			if gain <= 0 {
				continue search
			}
		}
		found = true
		break search
	}
	return found
}
