package plaint_test

import (
	"math"
	"reflect"
	"slices"
	"testing"

	"laystall/api"
	"laystall/plaint"
	"laystall/street"
)

// inside reports whether a number is from lo to hi.
func inside(n, lo, hi int) bool { return lo <= n && n <= hi }

// checkOf returns the error of a case, by the words of the chapter.
func checkOf(c plaint.Case) api.Errno {
	if e := street.Check(c.Town); e != api.OK {
		return e
	}
	if len(c.Town.Streets) > 8 || len(c.Words) > 5 {
		return api.ErrCount
	}
	ranges := inside(c.Cart.Wide, 1, 9) && inside(c.Cart.Load, 0, 9) && inside(c.Until, 0, 60) && inside(c.Lies, 0, 5)
	exist := inside(c.From, 0, c.Town.Corners-1)
	for _, w := range c.Words {
		ranges = ranges && inside(w.Lo, 0, 60) && inside(w.Hi, 0, 60) && w.Lo <= w.Hi
		most := c.Town.Corners
		if w.Kind != 0 {
			most = len(c.Town.Streets)
		}
		exist = exist && inside(int(w.Kind), 0, 2) && inside(w.Place, 0, most-1)
	}
	switch {
	case !ranges:
		return api.ErrRange
	case !exist:
		return api.ErrNoSuch
	}
	return api.OK
}

// TestConstants: the numbers of kinds, verdicts and limits.
func TestConstants(t *testing.T) {
	kinds := []plaint.Kind{plaint.Seen, plaint.Passed, plaint.Away}
	both := verdicts(plaint.Open, plaint.Served, plaint.Left, plaint.Doubtful, plaint.Sure, plaint.Untrue)
	limits := list(plaint.MaxStreets, plaint.MaxWords, plaint.MaxUntil, plaint.MaxSteps)
	if !slices.Equal(kinds, []plaint.Kind{0, 1, 2}) || !slices.Equal(both, verdicts(0, 1, 2, 0, 1, 2)) || !slices.Equal(limits, list(8, 5, 60, 60)) {
		t.Error(kinds, both, limits)
	}
}

// TestP91Limits asks each number of a case at its limits, and one beyond them.
func TestP91Limits(t *testing.T) {
	words := func(c *plaint.Case, w plaint.Word) *plaint.Word {
		c.Words = append(c.Words, w)
		return &c.Words[len(c.Words)-1]
	}
	for i, x := range []struct {
		number func(c *plaint.Case) *int
		lo, hi int
		e      api.Errno
	}{
		{func(c *plaint.Case) *int { return &c.Town.Streets[1].Minutes }, 1, 30, api.ErrRange},
		{func(c *plaint.Case) *int { return &c.Town.Streets[2].Up }, 0, 3, api.ErrRange},
		{func(c *plaint.Case) *int { return &c.Cart.Wide }, 1, 9, api.ErrRange},
		{func(c *plaint.Case) *int { return &c.Cart.Load }, 0, 9, api.ErrRange},
		{func(c *plaint.Case) *int { return &c.From }, 0, 2, api.ErrNoSuch},
		{func(c *plaint.Case) *int { return &c.Until }, 0, 60, api.ErrRange},
		{func(c *plaint.Case) *int { return &c.Lies }, 0, 5, api.ErrRange},
		{func(c *plaint.Case) *int { return &c.Words[0].Lo }, 0, 20, api.ErrRange},
		{func(c *plaint.Case) *int { return &c.Words[0].Hi }, 20, 60, api.ErrRange},
		{func(c *plaint.Case) *int { return &c.Words[0].Place }, 0, 2, api.ErrNoSuch},
		{func(c *plaint.Case) *int { c.Town.Corners = 8; return &c.Words[0].Place }, 0, 7, api.ErrNoSuch},
		{func(c *plaint.Case) *int { return &words(c, passed(0, 5, 9)).Place }, 0, 2, api.ErrNoSuch},
		{func(c *plaint.Case) *int { return &words(c, passed(0, 5, 9)).Lo }, 0, 9, api.ErrRange},
		{func(c *plaint.Case) *int { return &words(c, passed(0, 5, 9)).Hi }, 5, 60, api.ErrRange},
		{func(c *plaint.Case) *int { return &words(c, away(0, 5, 9)).Place }, 0, 2, api.ErrNoSuch},
		{func(c *plaint.Case) *int { c.Town.Corners = 8; return &words(c, away(0, 5, 9)).Place }, 0, 2, api.ErrNoSuch},
		{func(c *plaint.Case) *int { return &words(c, away(0, 60, 60)).Lo }, 0, 60, api.ErrRange},
		{func(c *plaint.Case) *int { return &words(c, away(0, 0, 0)).Hi }, 0, 60, api.ErrRange},
	} {
		for _, n := range list(math.MinInt, -1, x.lo-1, x.lo, x.hi, x.hi+1, math.MaxInt) {
			c, want := examples(), api.OK
			number := x.number(&c)
			if *number = n; !inside(n, x.lo, x.hi) {
				want = x.e
			}
			if e := plaint.Check(c); e != want {
				t.Error(i, n, e)
			}
		}
	}
	for kind, want := range map[plaint.Kind]api.Errno{-1: api.ErrNoSuch, 0: api.OK, 1: api.OK, 2: api.OK, 3: api.ErrNoSuch, math.MaxInt: api.ErrNoSuch} {
		c := examples()
		if c.Words[0].Kind = kind; plaint.Check(c) != want {
			t.Error("kind", kind, plaint.Check(c))
		}
	}
}

// TestP91Counts: up to 8 streets and 5 words, none of each as well.
func TestP91Counts(t *testing.T) {
	for n := range street.MaxStreets + 2 {
		c, want := examples(), api.OK
		c.Town.Streets = slices.Repeat(c.Town.Streets, 6)[:n]
		if n > plaint.MaxStreets {
			want = api.ErrCount
		}
		if e := plaint.Check(c); e != want {
			t.Error("streets", n, e)
		}
	}
	for n := range 9 {
		c, want := examples(), api.OK
		c.Words = slices.Repeat(c.Words, 9)[:n]
		if n > plaint.MaxWords {
			want = api.ErrCount
		}
		if e := plaint.Check(c); e != want {
			t.Error("words", n, e)
		}
	}
	if e := plaint.Check(plaint.Case{Town: town(1), Cart: street.Cart{Wide: 1}}); e != api.OK {
		t.Error("the least case", e)
	}
}

// TestP91Any asks cases that are wrong in several places, or in none.
func TestP91Any(t *testing.T) {
	l := &luck{1}
	met := map[api.Errno]int{}
	for range 6000 {
		c := l.strangeCase()
		e := plaint.Check(c)
		if want := checkOf(c); e != want {
			t.Fatal(c, e, want)
		}
		met[e]++
	}
	for _, e := range []api.Errno{api.OK, api.ErrCount, api.ErrRange, api.ErrNoSuch} {
		if met[e] < 80 {
			t.Error("cases with each error:", met)
		}
	}
}

// same reports whether two cases are the same; lists that are nil and empty are.
func same(a, b plaint.Case) bool {
	lists := slices.Equal(a.Words, b.Words) && slices.Equal(a.Town.Streets, b.Town.Streets)
	a.Words, b.Words, a.Town.Streets, b.Town.Streets = nil, nil, nil, nil
	return lists && reflect.DeepEqual(a, b)
}

// TestP91More: the word comes last, and all else stays; the errors of the case come before those of the word.
func TestP91More(t *testing.T) {
	l := &luck{2}
	fine := 0
	for i := range 900 {
		c := l.plaint(sizes(i))
		w := l.word(c, large())
		if l.below(3) == 0 {
			w.Place = l.from(-1, 8)
		}
		want := copyOf(c)
		want.Words = append(want.Words, w)
		more, e := plaint.More(c, w)
		if f := checkOf(want); f != e {
			t.Fatal(c, w, e, f)
		}
		if e != api.OK {
			want = plaint.Case{}
		}
		if !same(more, want) {
			t.Fatal(c, w, more, e)
		}
		fine += count(e == api.OK)
	}
	if fine < 300 || fine > 800 {
		t.Error("words that could be told:", fine)
	}
	bad := examples(away(3, 0, 0))
	for i, x := range []struct {
		c plaint.Case
		w plaint.Word
		e api.Errno
	}{
		{examples(), away(2, 60, 60), api.OK},
		{examples(), away(2, 61, 61), api.ErrRange},
		{examples(), passed(3, 0, 0), api.ErrNoSuch},
		{examples(), seen(3, 0, 61), api.ErrRange},
		{bad, passed(0, 1, 0), api.ErrNoSuch},
		{examples(away(0, 0, 9), away(0, 0, 9), away(0, 0, 9)), seen(0, 0, 0), api.OK},
		{examples(away(0, 0, 9), away(0, 0, 9), away(0, 0, 9), away(0, 0, 9)), seen(9, 1, 0), api.ErrCount},
	} {
		if _, e := plaint.More(x.c, x.w); e != x.e {
			t.Error(i, e)
		}
	}
}

// TestP91MoreMemory: the case with one word more shares no memory with the one without it.
func TestP91MoreMemory(t *testing.T) {
	c := examples(away(2, 0, 40))
	c.Words = append(make([]plaint.Word, 0, 5), c.Words...)
	a, e := plaint.More(c, seen(1, 10, 10))
	b, f := plaint.More(c, seen(1, 11, 11))
	noError(t, e, f)
	if a.Words[2] != seen(1, 10, 10) || b.Words[2] != seen(1, 11, 11) || c.Words[:3][2] != (plaint.Word{}) {
		t.Error(a, b, c.Words[:3])
	}
	clear(a.Words[:cap(a.Words)])
	clear(a.Town.Streets[:cap(a.Town.Streets)])
	if !slices.Equal(c.Words, examples(away(2, 0, 40)).Words) || !slices.Equal(c.Town.Streets, triangle().Streets) || !slices.Equal(b.Town.Streets, triangle().Streets) {
		t.Error(b, c)
	}
}
