package street

import (
	"slices"

	"laystall/api"
)

// Bounds reports whether a table bounds drives.
func Bounds(t Town, c Cart, from, at int, table []int) (bool, api.Errno) {
	if e := question(t, c, []int{from}, nil, []int{at}); e != api.OK {
		return false, e
	}
	if len(table) != t.Corners {
		return false, api.ErrCount
	}
	if !all(table, func(n int) bool { return n == None || isMinute(n) }) {
		return false, api.ErrRange
	}
	told := nowhere()
	copy(told[:], table)
	// What bounds is bettered neither by the beginning nor by a leg.
	begun := told
	begun[from] = least(told[from], at)
	return begin(t, c).forwards().spread(begun) == told, api.OK
}

// Reach returns the corners that a cart could reach.
func Reach(t Town, c Cart, from int) ([]int, api.Errno) {
	if e := question(t, c, []int{from}, nil, nil); e != api.OK {
		return nil, e
	}
	j := begin(t, c)
	var reached [MaxCorners]bool
	var visit func(corner int)
	visit = func(corner int) {
		reached[corner] = true
		for leg := range j.legs(corner, j.may) {
			if _, far := j.ends(leg); !reached[far] {
				visit(far)
			}
		}
	}
	visit(from)
	var corners []int
	for corner := range t.Corners {
		if reached[corner] {
			corners = append(corners, corner)
		}
	}
	return corners, api.OK
}

// Out returns the streets that lead away from some corners.
func Out(t Town, c Cart, corners []int) ([]int, api.Errno) {
	if e := question(t, c, corners, nil, nil); e != api.OK {
		return nil, e
	}
	if !increasing(corners) {
		return nil, api.ErrOrder
	}
	j := begin(t, c)
	var streets []int
	for _, corner := range corners {
		for leg := range j.legs(corner, j.may) {
			if _, far := j.ends(leg); !slices.Contains(corners, far) {
				streets = append(streets, leg.Street)
			}
		}
	}
	slices.Sort(streets)
	return streets, api.OK
}

// Bars returns the laws that alone keep a cart from a corner.
func Bars(t Town, c Cart, from, to, at int) ([]Law, api.Errno) {
	if e := question(t, c, []int{from, to}, nil, []int{at}); e != api.OK {
		return nil, e
	}
	j := begin(t, c)
	if j.earliest(from, at)[to] != None {
		return nil, api.ErrNone
	}
	var laws []Law
	for law := range Closing + 1 {
		j.lifted = law
		if j.earliest(from, at)[to] != None {
			laws = append(laws, law)
		}
	}
	return laws, api.OK
}
