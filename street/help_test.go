package street_test

import (
	"slices"
	"testing"

	"laystall/api"
	"laystall/street"
)

// never is the span of a street that is never shut.
func never() api.Span { return api.Span{Lo: 1} }

// plain is a street that is wide, strong and never shut, and can be driven in both directions.
func plain(from, to, minutes int) street.Street {
	return street.Street{From: from, To: to, Minutes: minutes, Wide: 9, Bears: 9, Back: true, Shut: never()}
}

// examples is the town of the chapter's examples.
func examples() street.Town {
	return street.Town{Corners: 4, Streets: []street.Street{
		{From: 0, To: 1, Minutes: 5, Up: 2, Wide: 4, Bears: 9, Back: true, Shut: never()},
		{From: 1, To: 2, Minutes: 4, Wide: 9, Bears: 3, Shut: never()},
		plain(0, 2, 20),
		{From: 2, To: 3, Minutes: 3, Wide: 9, Bears: 9, Back: true, Shut: api.Span{Lo: 10, Hi: 19}},
	}}
}

// pair is a town of two corners and one street.
func pair(s street.Street) street.Town {
	s.To = 1
	return street.Town{Corners: 2, Streets: []street.Street{s}}
}

func cart(wide, load int) street.Cart { return street.Cart{Wide: wide, Load: load} }
func forth(s int) street.Leg          { return street.Leg{Street: s} }
func back(s int) street.Leg           { return street.Leg{Street: s, Back: true} }

// luck is a row of numbers that is the same in each run.
type luck struct{ state uint64 }

// below returns a number from 0 to n - 1.
func (l *luck) below(n int) int {
	l.state = l.state*6364136223846793005 + 1442695040888963407
	return int((l.state >> 33) % uint64(n))
}

// span returns a span that can be empty, short, or long.
func (l *luck) span() api.Span {
	lo := l.below(street.MaxDay)
	return api.Span{Lo: lo, Hi: min(max(lo+l.below(60)-20, 0), street.MaxDay-1)}
}

// town returns a valid town.
func (l *luck) town() street.Town {
	t := street.Town{Corners: 2 + l.below(street.MaxCorners-1)}
	for range l.below(street.MaxStreets + 1) {
		from := l.below(t.Corners)
		t.Streets = append(t.Streets, street.Street{
			From:    from,
			To:      (from + 1 + l.below(t.Corners-1)) % t.Corners,
			Minutes: 1 + l.below(street.MaxMinutes),
			Up:      l.below(street.MaxUp + 1),
			Wide:    1 + l.below(street.MaxWide),
			Bears:   l.below(street.MaxLoad + 1),
			Back:    l.below(2) == 0,
			Shut:    l.span(),
		})
	}
	return t
}

// cart returns a cart, mostly a small one, so that some of it can drive.
func (l *luck) cart() street.Cart {
	return street.Cart{Wide: 1 + l.below(5), Load: l.below(6)}
}

// world drives by the words of the chapter alone, minute after minute.
type world struct {
	t street.Town
	c street.Cart
}

// ways returns, for each leg that starts at a corner at a minute exactly, where and when it ends.
func (w world) ways(corner, minute int, come func(street, far, then int)) {
	for i, s := range w.t.Streets {
		if w.c.Wide > s.Wide || w.c.Load > s.Bears {
			continue
		}
		if s.From == corner && w.open(s, minute, s.Minutes+s.Up*w.c.Load) {
			come(i, s.To, minute+s.Minutes+s.Up*w.c.Load)
		}
		if s.Back && s.To == corner && w.open(s, minute, s.Minutes) {
			come(i, s.From, minute+s.Minutes)
		}
	}
}

// open reports whether a street can be used in some minutes of the day.
func (w world) open(s street.Street, start, takes int) bool {
	for m := start; m < start+takes; m++ {
		if m >= s.Shut.Lo && m <= s.Shut.Hi {
			return false
		}
	}
	return start+takes <= street.MaxDay
}

// tour returns when each corner can be come to first with each set of some streets done.
func (w world) tour(from, at int, streets []int) map[[2]int]int {
	var can [street.MaxDay + 1][street.MaxCorners][1 << street.MaxTour]bool
	can[at][from][0] = true
	first := map[[2]int]int{}
	for m := at; m <= street.MaxDay; m++ {
		for corner := range w.t.Corners {
			for done := range 1 << len(streets) {
				if !can[m][corner][done] {
					continue
				}
				if _, known := first[[2]int{corner, done}]; !known {
					first[[2]int{corner, done}] = m
				}
				if m < street.MaxDay {
					can[m+1][corner][done] = true
				}
				w.ways(corner, m, func(s, far, then int) {
					more := done
					if i := slices.Index(streets, s); i >= 0 {
						more |= 1 << i
					}
					can[then][far][more] = true
				})
			}
		}
	}
	return first
}

// earliest returns when each corner can be come to first.
func (w world) earliest(from, at int) []int {
	first := w.tour(from, at, nil)
	var table []int
	for corner := range w.t.Corners {
		minute, ok := first[[2]int{corner, 0}]
		if !ok {
			minute = street.None
		}
		table = append(table, minute)
	}
	return table
}

// latest returns the last minute at which each corner still leads to another one in time.
func (w world) latest(to, by int) []int {
	var can [street.MaxDay + 1][street.MaxCorners]bool
	table := slices.Repeat([]int{street.None}, w.t.Corners)
	for m := by; m >= 0; m-- {
		for corner := range w.t.Corners {
			can[m][corner] = corner == to || m < by && can[m+1][corner]
			w.ways(corner, m, func(_, far, then int) {
				if then <= by && can[then][far] {
					can[m][corner] = true
				}
			})
			if can[m][corner] && table[corner] == street.None {
				table[corner] = m
			}
		}
	}
	return table
}

// noError fails a test if a call that has no reason for it returns an error.
func noError(t *testing.T, e api.Errno) {
	t.Helper()
	if e != api.OK {
		t.Fatal("error", e)
	}
}
