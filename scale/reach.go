package scale

import (
	"maps"
	"math"
	"slices"

	"laystall/api"
)

// values is how many values a drift can have.
const values = 2*MaxDrift + 1

// nothing stands for a sum that no drift reaches.
const nothing = math.MinInt

// reach has the best sum that drifts reach up to some minute, by how many changes they can have until then, and by their value then.
type reach [MaxChanges + 1][values]int

// unreached returns sums of which drifts reach none.
func unreached() reach {
	var r reach
	for changes := range r {
		for i := range values {
			r[changes][i] = nothing
		}
	}
	return r
}

// aim says which of two sums is better.
type aim struct{ better func(sum, than int) bool }

// upper aims for the greatest sum, and lower for the least one.
func upper() aim { return aim{func(sum, than int) bool { return sum > than }} }
func lower() aim { return aim{func(sum, than int) bool { return sum < than }} }

// aimOf returns the aim for the greatest sum, or for the least one.
func aimOf(heavy bool) aim {
	if heavy {
		return upper()
	}
	return lower()
}

// best returns the best of several sums; nothing if no drift reaches any.
func (a aim) best(sums ...int) int {
	best := nothing
	for _, sum := range sums {
		if sum != nothing && (best == nothing || a.better(sum, best)) {
			best = sum
		}
	}
	return best
}

// search is for a drift of a bridge whose sum is best: of its values at some minutes, each as many times as it is asked for then.
type search struct {
	limited
	aim
	bridge int
	asks   map[int]int
}

// minutes returns those that matter, in increasing order. A drift that changes at no other ones can have all values there that any drift has.
func (s search) minutes() []int {
	asked, proved := slices.Collect(maps.Keys(s.asks)), s.of(s.bridge, Proof.minute)
	return slices.Compact(slices.Sorted(slices.Values(slices.Concat(asked, proved))))
}

// room returns the values that the proofs of a minute leave.
func (s search) room(minute int) api.Span {
	room := anything()
	for i, p := range s.Proofs {
		if p.Bridge == s.bridge && p.Minute == minute {
			room = meet(room, s.spans[i])
		}
	}
	return room
}

// step returns the sums at a minute, by those at the one before it.
func (s search) step(before reach, minute int) reach {
	next := unreached()
	room, times := s.room(minute), s.asks[minute]
	changed := nothing
	for changes := range s.most + 1 {
		for value := room.Lo; value <= room.Hi; value++ {
			i := value + MaxDrift
			next[changes][i] = plus(s.best(before[changes][i], changed), times*value)
		}
		// With one change more, any value can follow the best one.
		changed = s.best(before[changes][:]...)
	}
	return next
}

// sum returns the best sum; nothing if no drift fits.
func (s search) sum() int {
	// Before all minutes each value is as good.
	var last reach
	for _, minute := range s.minutes() {
		last = s.step(last, minute)
	}
	return s.best(last[s.most][:]...)
}

// drift returns one that has the best sum, if a drift fits.
func (s search) drift() Drift {
	minutes, tables := s.minutes(), []reach{{}}
	for i, minute := range minutes {
		tables = append(tables, s.step(tables[i], minute))
	}
	var trace func(count, changes, i int) Drift
	trace = func(count, changes, i int) Drift {
		if count == 0 {
			return Drift{First: i - MaxDrift}
		}
		c := Change{Minute: minutes[count-1], Value: i - MaxDrift}
		sum, before := plus(tables[count][changes][i], -s.asks[c.Minute]*c.Value), tables[count-1]
		if before[changes][i] == sum {
			return trace(count-1, changes, i).then(c)
		}
		return trace(count-1, changes-1, slices.Index(before[changes-1][:], sum)).then(c)
	}
	last := tables[len(minutes)][s.most]
	return trace(len(minutes), s.most, slices.Index(last[:], s.best(last[:]...)))
}

// span returns the least and the greatest sum of what is asked of a bridge, and whether a drift fits.
func (l limited) span(bridge int, asks map[int]int) (api.Span, bool) {
	least := search{limited: l, aim: lower(), bridge: bridge, asks: asks}.sum()
	if least == nothing {
		return api.Span{}, false
	}
	return api.Span{Lo: least, Hi: search{limited: l, aim: upper(), bridge: bridge, asks: asks}.sum()}, true
}

// plus adds to a sum, if it is reached.
func plus(sum, more int) int {
	if sum == nothing {
		return nothing
	}
	return sum + more
}
