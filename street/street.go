// Package street is layer 1: see shared/doc/01-street.md.
package street

import (
	"slices"

	"laystall/api"
)

// The laws.
const (
	OneWay Law = iota
	Narrow
	Weak
	Closing
)

// None is no minute; the others are the limits of layer 1.
const (
	None       = -1
	MaxCorners = 8
	MaxStreets = 16
	MaxMinutes = 30
	MaxUp      = 3
	MaxWide    = 9
	MaxLoad    = 9
	MaxDay     = 240
	MaxLegs    = 60
	MaxTour    = 6
)

// Street leads from one corner to another one.
type Street struct {
	From, To, Minutes, Up, Wide, Bears int
	Back                               bool
	Shut                               api.Span
}

// Town has corners and streets.
type Town struct {
	Corners int
	Streets []Street
}

// Cart has a width and a load.
type Cart struct{ Wide, Load int }

// Leg passes a street, forth or back.
type Leg struct {
	Street int
	Back   bool
}

// Law keeps carts from streets.
type Law int

// Pass returns the earliest minute behind a leg.
func Pass(t Town, c Cart, leg Leg, at int) (int, api.Errno) {
	if e := question(t, c, nil, []int{leg.Street}, []int{at}); e != api.OK {
		return 0, e
	}
	minute := begin(t, c).pass(leg, at)
	if minute == None {
		return 0, api.ErrNone
	}
	return minute, api.OK
}

// Earliest returns the earliest minute at each corner.
func Earliest(t Town, c Cart, from, at int) ([]int, api.Errno) {
	if e := question(t, c, []int{from}, nil, []int{at}); e != api.OK {
		return nil, e
	}
	found := begin(t, c).earliest(from, at)
	return slices.Clone(found[:t.Corners]), api.OK
}

// Latest returns the latest minute for each corner.
func Latest(t Town, c Cart, to, by int) ([]int, api.Errno) {
	if e := question(t, c, []int{to}, nil, []int{by}); e != api.OK {
		return nil, e
	}
	found := begin(t, c).latest(to, by)
	return slices.Clone(found[:t.Corners]), api.OK
}

// Spare returns how many minutes later a cart may leave.
func Spare(t Town, c Cart, from, to, at, by int) (int, api.Errno) {
	if e := question(t, c, []int{from, to}, nil, []int{at, by}); e != api.OK {
		return 0, e
	}
	leaves := begin(t, c).latest(to, by)[from]
	// None is less than every minute, so that it is too early as well.
	if leaves < at {
		return 0, api.ErrNone
	}
	return leaves - at, api.OK
}

// Drive returns a fastest drive.
func Drive(t Town, c Cart, from, to, at int) ([]Leg, int, api.Errno) {
	if e := question(t, c, []int{from, to}, nil, []int{at}); e != api.OK {
		return nil, 0, e
	}
	return begin(t, c).drive(from, at, nil, to)
}

// Tour returns a fastest drive through streets and back.
func Tour(t Town, c Cart, from, at int, streets []int) ([]Leg, int, api.Errno) {
	if e := question(t, c, []int{from}, streets, []int{at}); e != api.OK {
		return nil, 0, e
	}
	if len(streets) > MaxTour {
		return nil, 0, api.ErrCount
	}
	if twice(streets) {
		return nil, 0, api.ErrTwice
	}
	return begin(t, c).drive(from, at, streets, from)
}

// Follow returns where and when a drive ends.
func Follow(t Town, c Cart, from, at int, legs []Leg) (corner, minute int, e api.Errno) {
	if e := question(t, c, []int{from}, streetsOf(legs), []int{at}); e != api.OK {
		return 0, 0, e
	}
	if len(legs) > MaxLegs {
		return 0, 0, api.ErrCount
	}
	j := begin(t, c)
	corner, minute = from, at
	for _, leg := range legs {
		near, far := j.ends(leg)
		if near != corner {
			return 0, 0, api.ErrWrong
		}
		minute = j.pass(leg, minute)
		if minute == None {
			return 0, 0, api.ErrNone
		}
		corner = far
	}
	return corner, minute, api.OK
}

// Through reports whether legs go through streets.
func Through(legs []Leg, streets []int) (bool, api.Errno) {
	if len(legs) > MaxLegs || len(streets) > MaxTour {
		return false, api.ErrCount
	}
	return !lacks(legs, streets), api.OK
}

// Heaviest returns the greatest load with which a cart is in time.
func Heaviest(t Town, wide, from, to, at, by int) (int, api.Errno) {
	if e := question(t, Cart{Wide: wide}, []int{from, to}, nil, []int{at, by}); e != api.OK {
		return 0, e
	}
	for load := MaxLoad; load >= 0; load-- {
		minute := begin(t, Cart{Wide: wide, Load: load}).earliest(from, at)[to]
		if minute != None && minute <= by {
			return load, api.OK
		}
	}
	return 0, api.ErrNone
}

// Later returns how much later a cart is somewhere without a street.
func Later(t Town, c Cart, from, to, at, street int) (int, api.Errno) {
	if e := question(t, c, []int{from, to}, []int{street}, []int{at}); e != api.OK {
		return 0, e
	}
	with := begin(t, c).earliest(from, at)[to]
	if with == None {
		return 0, api.ErrNone
	}
	alone := begin(without(t, street), c).earliest(from, at)[to]
	if alone == None {
		return 0, api.ErrState
	}
	return alone - with, api.OK
}
