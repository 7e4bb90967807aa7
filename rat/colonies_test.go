package rat_test

import (
	"math"
	"slices"
	"testing"

	"laystall/api"
	"laystall/rat"
)

// checkOf returns the error of a colony, by the words of the chapter.
func checkOf(c rat.Colony) api.Errno {
	houses := len(c.Rooms)
	count := has(span(1, 6), houses) && len(c.Traps) == houses && len(c.Runs) <= 12 && len(c.Nights) <= 6
	for _, night := range c.Nights {
		count = count && len(night) == houses
	}
	if !count {
		return api.ErrCount
	}
	ranges, exist, twice := true, true, false
	for house := range houses {
		ranges = ranges && has(span(0, 60), c.Rooms[house]) && has(span(0, 9), c.Traps[house])
		for _, night := range c.Nights {
			ranges = ranges && has(span(0, c.Traps[house]), night[house])
		}
	}
	met := map[[2]int]bool{}
	for _, r := range c.Runs {
		exist = exist && has(span(0, houses-1), r.A) && has(span(0, houses-1), r.B)
		twice = twice || r.A == r.B || met[[2]int{r.A, r.B}]
		met[[2]int{r.A, r.B}], met[[2]int{r.B, r.A}] = true, true
	}
	switch {
	case !ranges:
		return api.ErrRange
	case !exist:
		return api.ErrNoSuch
	case twice:
		return api.ErrTwice
	}
	return api.OK
}

// TestP81Limits asks each number of a colony at its limits, and one beyond them.
func TestP81Limits(t *testing.T) {
	for i, x := range []struct {
		number func(c *rat.Colony) *int
		limits api.Span
		e      api.Errno
	}{
		{func(c *rat.Colony) *int { return &c.Rooms[0] }, span(0, 60), api.ErrRange},
		{func(c *rat.Colony) *int { return &c.Rooms[2] }, span(0, 60), api.ErrRange},
		{func(c *rat.Colony) *int { return &c.Traps[0] }, span(2, 9), api.ErrRange},
		{func(c *rat.Colony) *int { return &c.Traps[1] }, span(3, 9), api.ErrRange},
		{func(c *rat.Colony) *int { return &c.Traps[2] }, span(1, 9), api.ErrRange},
		{func(c *rat.Colony) *int { return &c.Nights[0][0] }, span(0, 2), api.ErrRange},
		{func(c *rat.Colony) *int { return &c.Nights[1][1] }, span(0, 3), api.ErrRange},
		{func(c *rat.Colony) *int { return &c.Nights[1][2] }, span(0, 1), api.ErrRange},
		{func(c *rat.Colony) *int { return &c.Runs[0].A }, span(0, 2), api.ErrNoSuch},
		{func(c *rat.Colony) *int { return &c.Runs[1].B }, span(0, 2), api.ErrNoSuch},
	} {
		for _, n := range list(x.limits.Lo, x.limits.Hi, x.limits.Lo-1, x.limits.Hi+1, math.MinInt, math.MaxInt) {
			c := examples()
			*x.number(&c) = n
			e := rat.Check(c)
			if has(x.limits, n) && e != checkOf(c) || !has(x.limits, n) && e != x.e {
				t.Error(i, n, e)
			}
		}
	}
	// A house without traps, in which none was caught, is allowed.
	c := examples()
	c.Traps[2], c.Nights[0][2] = 0, 0
	if e := rat.Check(c); e != api.OK {
		t.Error(e)
	}
}

// TestP81Counts asks for all numbers of houses, runs and nights, the same for all lists, or not.
func TestP81Counts(t *testing.T) {
	runs := []rat.Run{{A: 0, B: 1}, {A: 2, B: 0}, {A: 0, B: 3}, {A: 4, B: 0}, {A: 0, B: 5}, {A: 2, B: 1}, {A: 1, B: 3}, {A: 4, B: 1}, {A: 1, B: 5}, {A: 3, B: 2}, {A: 2, B: 4}, {A: 5, B: 2}, {A: 3, B: 4}, {A: 3, B: 5}}
	for n := range 15 {
		want := func(limits api.Span) api.Errno {
			if has(limits, n) {
				return api.OK
			}
			return api.ErrCount
		}
		if e := rat.Check(rat.Colony{Rooms: make([]int, n), Traps: make([]int, n)}); e != want(span(1, 6)) {
			t.Error("houses:", n, e)
		}
		if e := rat.Check(rat.Colony{Rooms: make([]int, n), Traps: make([]int, n), Nights: [][]int{make([]int, n)}}); e != want(span(1, 6)) {
			t.Error("houses, and a night:", n, e)
		}
		if e := rat.Check(rat.Colony{Rooms: make([]int, 4), Traps: make([]int, n)}); e != want(span(4, 4)) {
			t.Error("traps:", n, e)
		}
		if e := rat.Check(rat.Colony{Rooms: make([]int, n), Traps: make([]int, 4)}); e != want(span(4, 4)) {
			t.Error("rooms:", n, e)
		}
		if e := rat.Check(rat.Colony{Rooms: make([]int, 4), Traps: make([]int, 4), Nights: [][]int{make([]int, 4), make([]int, n)}}); e != want(span(4, 4)) {
			t.Error("a night:", n, e)
		}
		if e := rat.Check(rat.Colony{Rooms: make([]int, 4), Traps: make([]int, 4), Nights: slices.Repeat([][]int{make([]int, 4)}, n)}); e != want(span(0, 6)) {
			t.Error("nights:", n, e)
		}
		if e := rat.Check(rat.Colony{Rooms: make([]int, 6), Traps: make([]int, 6), Runs: runs[:min(n, len(runs))]}); e != want(span(0, 12)) {
			t.Error("runs:", n, e)
		}
	}
}

// TestP81Runs goes through all pairs of runs of three houses.
func TestP81Runs(t *testing.T) {
	everyWay(3, 4, func(way []int) {
		c := quiet(list(1, 2, 3), rat.Run{A: way[0], B: way[1]}, rat.Run{A: way[2], B: way[3]})
		same := way[0] == way[2] && way[1] == way[3] || way[0] == way[3] && way[1] == way[2]
		want := api.OK
		if same || way[0] == way[1] || way[2] == way[3] {
			want = api.ErrTwice
		}
		if e := rat.Check(c); e != want {
			t.Error(way, e, want)
		}
	})
	// The same run again, but not beside the first one, and a house that there is not, behind a run that joins a house with itself.
	for i, x := range []struct {
		runs []rat.Run
		e    api.Errno
	}{
		{[]rat.Run{{A: 0, B: 1}, {A: 1, B: 2}, {A: 1, B: 0}}, api.ErrTwice},
		{[]rat.Run{{A: 0, B: 1}, {A: 1, B: 2}, {A: 0, B: 2}}, api.OK},
		{[]rat.Run{{A: 1, B: 1}, {A: 1, B: 3}}, api.ErrNoSuch},
		{[]rat.Run{{A: 3, B: 3}}, api.ErrNoSuch},
		{[]rat.Run{{A: -1, B: -1}}, api.ErrNoSuch},
	} {
		if e := rat.Check(quiet(list(1, 2, 3), x.runs...)); e != x.e {
			t.Error(i, e)
		}
	}
}

// TestP81Words holds colonies that can be wrong in every place against the words of the chapter.
func TestP81Words(t *testing.T) {
	l := &luck{1}
	many := map[api.Errno]int{}
	for range 8000 {
		c := l.strangeColony()
		want := checkOf(c)
		if e := rat.Check(c); e != want {
			t.Fatal(c, e, want)
		}
		many[want]++
	}
	for _, e := range []api.Errno{api.OK, api.ErrCount, api.ErrRange, api.ErrNoSuch, api.ErrTwice} {
		if many[e] < 50 {
			t.Error("colonies with the error", e, "are", many[e])
		}
	}
}

// TestP81Full asks all houses in all nights.
func TestP81Full(t *testing.T) {
	l := &luck{2}
	full, bare, open := 0, 0, 0
	for i := range 600 {
		c := l.colony(sizes(i))
		for night := range c.Nights {
			for house := range c.Rooms {
				is, e := rat.Full(c, house, night)
				if is != fullOf(c, house, night) || e != api.OK {
					t.Fatal(c, house, night, is, e)
				}
				full += count(is && c.Traps[house] > 0)
				bare += count(is && c.Traps[house] == 0)
				open += count(!is)
			}
		}
	}
	if full < 500 || bare < 200 || open < 500 {
		t.Error("houses that are full, without traps, and with open ones:", full, bare, open)
	}
}

// TestP81FullErrors asks for houses and nights that there are not.
func TestP81FullErrors(t *testing.T) {
	for _, x := range []struct {
		c            rat.Colony
		house, night int
		e            api.Errno
	}{
		{examples(), 2, 1, api.OK},
		{examples(), 3, 1, api.ErrNoSuch},
		{examples(), 2, 2, api.ErrNoSuch},
		{examples(), -1, 0, api.ErrNoSuch},
		{examples(), 0, -1, api.ErrNoSuch},
		{examples(), math.MaxInt, math.MinInt, api.ErrNoSuch},
		{quiet(list(3, 4)), 0, 0, api.ErrNoSuch},
		{rat.Colony{}, 0, 0, api.ErrCount},
	} {
		_, e := rat.Full(x.c, x.house, x.night)
		l, f := rat.Origins(x.c, x.house, x.night)
		if e != x.e || f != x.e || (l != nil) != (x.e == api.OK) {
			t.Error(x, l, e, f)
		}
	}
}
