package street

import "iter"

// noLaw is lifted where all laws count.
const noLaw Law = -1

// job is a town at work: the cart that drives in it, and the law that is lifted.
type job struct {
	Town
	cart   Cart
	lifted Law
}

// begin puts a town to work, with all its laws.
func begin(t Town, c Cart) job { return job{Town: t, cart: c, lifted: noLaw} }

// ends returns the corners at which a leg begins and ends.
func (j job) ends(leg Leg) (near, far int) {
	s := j.Streets[leg.Street]
	if leg.Back {
		return s.To, s.From
	}
	return s.From, s.To
}

// may reports whether the cart may drive a leg while its street is not shut.
func (j job) may(leg Leg) bool {
	s := j.Streets[leg.Street]
	return (j.lifted == OneWay || s.Back || !leg.Back) &&
		(j.lifted == Narrow || j.cart.Wide <= s.Wide) &&
		(j.lifted == Weak || j.cart.Load <= s.Bears)
}

// legs yields the legs that lead away from a corner, and that suit.
func (j job) legs(corner int, suits func(Leg) bool) iter.Seq[Leg] {
	return func(yield func(Leg) bool) {
		for street := range j.Streets {
			for _, leg := range [...]Leg{{Street: street}, {Street: street, Back: true}} {
				near, _ := j.ends(leg)
				if near == corner && suits(leg) && !yield(leg) {
					return
				}
			}
		}
	}
}

// takes returns for how many minutes the cart uses the street of a leg.
func (j job) takes(leg Leg) int {
	s := j.Streets[leg.Street]
	if leg.Back {
		return s.Minutes
	}
	return s.Minutes + s.Up*j.cart.Load
}

// meets reports whether a cart that starts at a minute would be in the street while it is shut.
func (j job) meets(leg Leg, start int) bool {
	shut := j.Streets[leg.Street].Shut
	// A street that takes long could be used from before Hi to behind Lo of a span without minutes.
	if j.lifted == Closing || shut.Lo > shut.Hi {
		return false
	}
	return start <= shut.Hi && start+j.takes(leg) > shut.Lo
}

// arrive returns the earliest minute at the end of a leg, from a minute on at its beginning; None if there is none.
func (j job) arrive(leg Leg, at int) int {
	if at == None {
		return None
	}
	start := at
	if j.meets(leg, start) {
		start = j.Streets[leg.Street].Shut.Hi + 1
	}
	if start+j.takes(leg) > MaxDay {
		return None
	}
	return start + j.takes(leg)
}

// leave returns the latest minute at the beginning of a leg, to be at its end by a minute; None if there is none.
func (j job) leave(leg Leg, by int) int {
	if by == None {
		return None
	}
	start := by - j.takes(leg)
	if j.meets(leg, start) {
		start = j.Streets[leg.Street].Shut.Lo - j.takes(leg)
	}
	if start < 0 {
		return None
	}
	return start
}

// pass returns the earliest minute behind a leg; None if the cart cannot pass it.
func (j job) pass(leg Leg, at int) int {
	if !j.may(leg) {
		return None
	}
	return j.arrive(leg, at)
}
