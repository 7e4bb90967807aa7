package tip

import (
	"iter"
	"slices"
)

// waste and cover are what a layer can be.
type (
	waste Layer
	cover Layer
)

// matter returns what a layer is: waste or a cover.
func (l Layer) matter() any {
	if l.Cover {
		return cover(l)
	}
	return waste(l)
}

// layers yields those of a strip, with their indices.
func (t Tip) layers(strip int) iter.Seq2[int, Layer] {
	return func(yield func(int, Layer) bool) {
		for i, l := range t.Layers {
			if l.Strip == strip && !yield(i, l) {
				return
			}
		}
	}
}

// with returns a tip with one layer more, which shares no memory with it.
func (t Tip) with(l Layer) Tip {
	layers := make([]Layer, len(t.Layers)+1)
	copy(layers, t.Layers)
	layers[len(t.Layers)] = l
	t.Strips, t.Settles, t.Gives, t.Layers = slices.Clone(t.Strips), slices.Clone(t.Settles), slices.Clone(t.Gives), layers
	return t
}

// thickness returns that of a layer at an age, if it settles by such a list.
func (t Tip) thickness(l Layer, age int, settling []int) int {
	var thick int
	switch m := l.matter().(type) {
	case waste:
		height := dividedUp(m.Pounds, t.Strips[m.Strip].Area)
		thick = dividedUp(height*at(settling, age), 100)
	case cover:
		thick = t.Soil
	}
	return thick
}

// level returns that of a strip on a day, if layers settle by such lists.
func (t Tip) level(strip, day int, settlings [][]int) int {
	level := t.Strips[strip].Base
	for i, l := range t.layers(strip) {
		if l.Day <= day {
			level += t.thickness(l, day-l.Day, settlings[i])
		}
	}
	return level
}

// dividedUp returns a number divided by another one, rounded up.
func dividedUp(n, by int) int { return (n + by - 1) / by }

// at returns the element of a list for an age; the last one is for all greater ages, too.
func at[T any](list []T, age int) T { return list[least(age, len(list)-1)] }

// least returns the least of several numbers.
func least(numbers ...int) int { return slices.Min(numbers) }
