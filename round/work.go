package round

import (
	"slices"

	"laystall/api"
	"laystall/street"
)

// trip is a drive that is asked for: of which cart, between which corners, and from which minute on.
type trip struct {
	cart         street.Cart
	from, to, at int
}

// state is where a cart is on its round, from which minute on it can go on, and how many pounds it has.
type state struct{ corner, minute, load int }

// work is a day at work: the minutes at which the drives end that were asked for.
type work struct {
	Day
	asked map[trip]int
}

// begin puts a day to work.
func begin(d Day) work { return work{Day: d, asked: map[trip]int{}} }

// greatest returns the greatest contents, if each bin can hold so much more.
func (w work) greatest(more int) []int {
	contents := make([]int, len(w.Bins))
	for bin, b := range w.Bins {
		contents[bin] = b.Holds.Hi + more
	}
	return contents
}

// leave returns where a cart begins its round.
func (w work) leave(c Cart) state { return state{corner: w.Yard, minute: c.Start} }

// arrive returns the earliest minute at which a cart can be at a corner; None if it cannot be there within the day.
func (w work) arrive(c Cart, here state, corner int) int {
	// To empty a bin can take until behind the end of the day.
	if !isMinute(here.minute) {
		return None
	}
	cart := street.Cart{Wide: c.Wide, Load: hundredweights(here.load)}
	t := trip{cart: cart, from: here.corner, to: corner, at: here.minute}
	minute, known := w.asked[t]
	if !known {
		minute = w.drive(t)
		w.asked[t] = minute
	}
	return minute
}

// drive returns when a fastest drive ends; None if there is none.
func (w work) drive(t trip) int {
	_, minute, e := street.Drive(w.Town, t.cart, t.from, t.to, t.at)
	if e != api.OK {
		return None
	}
	return minute
}

// inTime returns the minute at which a cart is at the tip; None if that is none, or too late.
func (c Cart) inTime(minute int) int {
	if minute > c.Until {
		return None
	}
	return minute
}

// filled returns contents with which a cart is full at a bin behind some others, and whether there are any.
func (w work) filled(c Cart, before []int, bin int) ([]int, bool) {
	greatest := w.greatest(0)
	contents := slices.Clone(greatest)
	over := sum(of(greatest, before)...) - c.Holds
	for _, b := range before {
		holds := w.Bins[b].Holds
		less := min(max(over, 0), holds.Hi-holds.Lo)
		contents[b] -= less
		over -= less
	}
	return contents, over <= 0 && over+contents[bin] > 0
}

// hundredweights returns a load of pounds in hundredweights, rounded up.
func hundredweights(pounds int) int { return (pounds + 99) / 100 }
