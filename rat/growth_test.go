package rat_test

import (
	"math"
	"testing"

	"laystall/api"
	"laystall/rat"
)

// TestP87Grow goes through all percents and weeks of some colonies, week by week, of which each rat in a hundred parts counts only if it is whole.
func TestP87Grow(t *testing.T) {
	l := &luck{14}
	grown := 0
	for i := range 60 {
		c := l.open(sizes(i))
		rats, e := rat.Rats(c)
		noError(t, e)
		for percent := range rat.MaxGrowth + 1 {
			n := rats.Hi - rats.Lo
			for weeks := range rat.MaxWeeks + 1 {
				if got, e := rat.Grow(c, percent, weeks); got != span(0, n) || e != api.OK {
					t.Fatal(c, percent, weeks, got, n, e)
				}
				parts := 0
				for range percent {
					parts += n
				}
				more := 0
				for parts-100*more >= 100 {
					more += max((parts-100*more)/200, 1)
				}
				grown += count(more > 0)
				n += more
			}
		}
	}
	if grown < 20000 {
		t.Error("weeks in which rats became more:", grown)
	}
}

// TestP87Edges asks for percents and weeks at their limits and beyond, and for the greatest colony.
func TestP87Edges(t *testing.T) {
	full := quiet(list(60, 60, 60, 60, 60, 60))
	for _, x := range []struct {
		c              rat.Colony
		percent, weeks int
		most           int
		e              api.Errno
	}{
		{examples(), 50, 0, 4, api.OK},
		{examples(), 0, 20, 4, api.OK},
		{examples(), 50, 1, 6, api.OK},
		{examples(), 50, 2, 9, api.OK},
		{examples(), 50, 3, 13, api.OK},
		{examples(), 24, 20, 4, api.OK},
		{examples(), 25, 1, 5, api.OK},
		{examples(), 25, 2, 6, api.OK},
		{examples(), 25, 4, 8, api.OK},
		{full, 100, 20, 360 << 20, api.OK},
		{full, 100, 0, 360, api.OK},
		{quiet(list(0)), 100, 20, 0, api.OK},
		{examples(), 101, 0, 0, api.ErrRange},
		{examples(), -1, 0, 0, api.ErrRange},
		{examples(), 0, 21, 0, api.ErrRange},
		{examples(), 0, -1, 0, api.ErrRange},
		{examples(), math.MaxInt, math.MinInt, 0, api.ErrRange},
		{tight(), 101, 0, 0, api.ErrRange},
		{tight(), 0, 21, 0, api.ErrRange},
		{tight(), 100, 20, 0, api.ErrClash},
		{rat.Colony{}, 101, 21, 0, api.ErrCount},
	} {
		if got, e := rat.Grow(x.c, x.percent, x.weeks); got != span(0, x.most) || e != x.e {
			t.Error(x, got, e)
		}
	}
}
