package tip

import (
	"cmp"
	"slices"

	"laystall/api"
)

// covers returns the last cover on each strip and day that has one.
func (t Tip) covers() map[place]int {
	last := map[place]int{}
	for i, l := range t.Layers {
		if l.Cover {
			last[place{strip: l.Strip, day: l.Day}] = i
		}
	}
	return last
}

// time returns that of waste: the days on which it is to be covered.
func (t Tip) time(l Layer) api.Span {
	return api.Span{Lo: l.Day, Hi: least(l.Day+t.Open, MaxDay)}
}

// late returns the waste that is not covered in time.
func (t Tip) late() []int {
	var late []int
	covers := t.covers()
	for i, l := range t.Layers {
		if !l.Cover && !t.inTime(i, covers) {
			late = append(late, i)
		}
	}
	return late
}

// inTime reports whether one of the covers comes behind some waste, while it is its time.
func (t Tip) inTime(layer int, covers map[place]int) bool {
	l := t.Layers[layer]
	for wait := range t.Open + 1 {
		if last, found := covers[place{strip: l.Strip, day: l.Day + wait}]; found && last > layer {
			return true
		}
	}
	return false
}

// apart returns as many layers that are apart as there can be: on each strip, the first waste, and each time the first one that a cover as late as can be would not cover.
func (t Tip) apart() []int {
	var apart []int
	for strip := range t.Strips {
		covered := -1
		for i, l := range t.layers(strip) {
			if !l.Cover && l.Day > covered {
				apart = append(apart, i)
				covered = t.time(l).Hi
			}
		}
	}
	slices.Sort(apart)
	return apart
}

// areApart reports whether layers are apart. No layer is so from itself.
func (t Tip) areApart(layers []int) bool {
	for n, i := range layers {
		if t.Layers[i].Cover {
			return false
		}
		for _, j := range layers[:n] {
			a, b := t.time(t.Layers[i]), t.time(t.Layers[j])
			if t.Layers[i].Strip == t.Layers[j].Strip && a.Lo <= b.Hi && b.Lo <= a.Hi {
				return false
			}
		}
	}
	return true
}

// lastCover returns the cover that covers waste as late as can be.
func (t Tip) lastCover(l Layer) Layer {
	return Layer{Strip: l.Strip, Day: t.time(l).Hi, Cover: true}
}

// byDay compares layers by their days, then by their strips.
func byDay(a, b Layer) int { return cmp.Or(cmp.Compare(a.Day, b.Day), cmp.Compare(a.Strip, b.Strip)) }
