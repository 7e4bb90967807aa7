package belt

import "laystall/api"

// Check returns the error of a belt.
func Check(b Belt) api.Errno {
	isStop := func(tray int) bool { return isIndex(b.Trays, tray) }
	switch {
	case !within(len(b.Trays), 1, MaxTrays) || len(b.Hands) > MaxHands:
		return api.ErrCount
	case !all(b.Trays, isTray) || !all(b.Hands, isHand):
		return api.ErrRange
	case !all(b.Hands, func(h Hand) bool { return all(h.Rests, isStop) }):
		return api.ErrNoSuch
	case !all(b.Hands, func(h Hand) bool { return increasing(h.Rests) }):
		return api.ErrOrder
	}
	return api.OK
}

// askHand returns the errors of Check, and then that of a hand.
func askHand(b Belt, hand int) api.Errno {
	if e := Check(b); e != api.OK {
		return e
	}
	if !isIndex(b.Hands, hand) {
		return api.ErrNoSuch
	}
	return api.OK
}

// askTray returns the errors of Check, and then that of a tray.
func askTray(b Belt, tray int) api.Errno {
	if e := Check(b); e != api.OK {
		return e
	}
	if !isIndex(b.Trays, tray) {
		return api.ErrNoSuch
	}
	return api.OK
}

// askLeft returns the errors of Check, and then that of what may be left.
func askLeft(b Belt, left Tray) api.Errno {
	if e := Check(b); e != api.OK {
		return e
	}
	if !isTray(left) {
		return api.ErrRange
	}
	return api.OK
}

// askSet returns the errors of a set.
func askSet(materials []Material) api.Errno {
	switch {
	case !all(materials, isMaterial):
		return api.ErrNoSuch
	case !increasing(materials):
		return api.ErrOrder
	}
	return api.OK
}

// isTray reports whether the numbers of a tray are within their limits.
func isTray(t Tray) bool {
	return all(t[:], func(n int) bool { return within(n, 0, MaxPieces) })
}

// isHand reports whether the numbers of a hand are within their limits.
func isHand(h Hand) bool {
	return within(h.Strength, 0, MaxStrength) && within(h.Tires, 0, MaxTires) && within(h.Slips, 0, 100)
}

// isMaterial reports whether there is such a material.
func isMaterial(m Material) bool { return within(int(m), int(Paper), int(Bone)) }

// isIndex reports whether a list has an element with such an index.
func isIndex[T any](list []T, n int) bool { return within(n, 0, len(list)-1) }

// increasing reports whether each number of a list is greater than the one before it.
func increasing[T ~int](list []T) bool {
	for i := 1; i < len(list); i++ {
		if list[i] <= list[i-1] {
			return false
		}
	}
	return true
}

// all reports whether each element of a list is as asked.
func all[T any](list []T, is func(T) bool) bool {
	for _, x := range list {
		if !is(x) {
			return false
		}
	}
	return true
}

// within reports whether a number is from lo to hi.
func within(n, lo, hi int) bool { return n >= lo && n <= hi }
