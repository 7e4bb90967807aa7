package round

import "iter"

// shift is a day at work for one cart, with the greatest contents: when it has emptied sets of bins at the earliest, by the bin that is the last one of them; None if it cannot.
type shift struct {
	work
	cart  Cart
	early [1 << MaxBins][MaxBins]int
}

// shift returns what a cart can do with some bins.
func (w work) shift(c Cart, bins set) *shift {
	s := &shift{work: w, cart: c}
	// Each set asks for those that have one bin less, which come before it.
	for done := range bins.parts() {
		for _, last := range done.bins() {
			s.early[done][last] = s.ready(done, last)
		}
	}
	return s
}

// shifts returns what each cart can do with some bins.
func (w work) shifts(bins set) []*shift {
	var list []*shift
	for _, c := range w.Carts {
		list = append(list, w.shift(c, bins))
	}
	return list
}

// load returns how many pounds some bins hold at most.
func (s *shift) load(bins set) int { return sum(of(s.greatest(0), bins.bins())...) }

// ready returns when the cart has emptied some bins at the earliest, one of them last; None if it cannot.
func (s *shift) ready(done set, last int) int {
	b := s.Bins[last]
	minute, _ := s.first(done.without(last), b.Corner)
	if minute == None || s.load(done) > min(s.cart.Holds, s.cart.Lifts) {
		return None
	}
	return minute + b.Minutes
}

// states yields where the cart can be when it has emptied some bins, by the last one of them; None if there are no bins.
func (s *shift) states(done set) iter.Seq2[int, state] {
	return func(yield func(int, state) bool) {
		if done == 0 {
			yield(None, s.leave(s.cart))
			return
		}
		load := s.load(done)
		for _, last := range done.bins() {
			minute := s.early[done][last]
			if minute != None && !yield(last, state{corner: s.Bins[last].Corner, minute: minute, load: load}) {
				return
			}
		}
	}
}

// first returns the earliest minute at which the cart can be at a corner with some bins emptied, None if it cannot, and which bin is the last one then.
func (s *shift) first(done set, corner int) (minute, last int) {
	minute, last = None, None
	for bin, here := range s.states(done) {
		then := s.arrive(s.cart, here, corner)
		if then != None && (minute == None || then < minute) {
			minute, last = then, bin
		}
	}
	return minute, last
}

// home returns the earliest minute at which the cart can be at the tip with some bins; None if it cannot be there in time.
func (s *shift) home(bins set) int {
	minute, _ := s.first(bins, s.Tip)
	return s.cart.inTime(minute)
}

// empties reports whether the cart can empty some bins.
func (s *shift) empties(bins set) bool { return s.home(bins) != None }

// order returns the round with which the cart, if it can empty some bins, is at the tip at the earliest.
func (s *shift) order(bins set) []int {
	var lead func(left set, corner int) []int
	lead = func(left set, corner int) []int {
		_, last := s.first(left, corner)
		if last == None {
			return nil
		}
		return append(lead(left.without(last), s.Bins[last].Corner), last)
	}
	return lead(bins, s.Tip)
}
