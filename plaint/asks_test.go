package plaint_test

import (
	"testing"

	"laystall/api"
	"laystall/plaint"
)

// TestP96Examples: the chapter's example 5, streets that were surely served or left, answers that no drive gives, and no streets.
func TestP96Examples(t *testing.T) {
	sure := examples(away(2, 0, 40))
	wait := examples(away(2, 0, 20))
	forked := quiet(town(2, plain(0, 1, 10), plain(0, 1, 10)), 10)
	again := quiet(town(2, plain(0, 1, 10), plain(0, 1, 10)), 20)
	for i, x := range []struct {
		c            plaint.Case
		asked        [][2]int
		street, left int
		e            api.Errno
	}{
		{examples(), [][2]int{{1, 1}, {2, 0}, {2, 0}}, 0, 1, api.OK},
		{sure, [][2]int{{0, 0}, {0, 0}, {0, 0}}, 0, 0, api.ErrNone},
		{wait, [][2]int{{1, 0}, {1, 0}, {0, 0}}, 2, 0, api.OK},
		{forked, [][2]int{{0, 1}, {0, 1}}, 0, 1, api.OK},
		{told(forked, 0, seen(1, 10, 10)), [][2]int{{0, 0}, {0, 0}}, 0, 0, api.OK},
		{again, [][2]int{{1, 1}, {1, 1}}, 0, 1, api.OK},
		{told(again, 0, passed(1, 0, 20)), [][2]int{{0, 0}, {1, 0}}, 0, 0, api.OK},
		{told(again, 0, away(1, 0, 20)), [][2]int{{0, 0}, {0, 1}}, 0, 0, api.OK},
		{quiet(triangle(), 9), [][2]int{{0, 0}, {0, 0}, {0, 0}}, 0, 0, api.ErrNone},
		{quiet(triangle(), 10), [][2]int{{0, 0}, {0, 1}, {0, 1}}, 0, 0, api.OK},
		{quiet(triangle(), 15), [][2]int{{0, 1}, {0, 2}, {0, 1}}, 0, 1, api.OK},
		{quiet(town(3), 15), nil, 0, 0, api.ErrNone},
	} {
		for k, want := range x.asked {
			if a, b, e := plaint.Asked(x.c, k); a != want[0] || b != want[1] || e != api.OK {
				t.Error(i, k, a, b, e)
			}
		}
		if k, n, e := plaint.Ask(x.c); k != x.street || n != x.left || e != x.e {
			t.Error(i, k, n, e)
		}
	}
	early := examples(seen(1, 5, 5))
	for _, x := range []struct {
		street int
		e      api.Errno
	}{{0, api.ErrClash}, {2, api.ErrClash}, {3, api.ErrNoSuch}, {-1, api.ErrNoSuch}} {
		if a, b, e := plaint.Asked(early, x.street); a != 0 || b != 0 || e != x.e {
			t.Error(x.street, a, b, e)
		}
	}
	if k, n, e := plaint.Ask(early); k != 0 || n != 0 || e != api.ErrClash {
		t.Error(k, n, e)
	}
	if k, n, e := plaint.Ask(told(quiet(town(1), 0), 0, seen(0, 1, 1))); k != 0 || n != 0 || e != api.ErrClash {
		t.Error(k, n, e)
	}
}

// asksAsWanted fails a test unless what is left by answers is as it follows from some function; it returns the error of Ask.
func asksAsWanted(t *testing.T, c plaint.Case, leaves func(x int, served bool) int, verdicts []plaint.Verdict) api.Errno {
	t.Helper()
	best, most := None, 0
	for x, v := range verdicts {
		served, left := leaves(x, true), leaves(x, false)
		if a, b, e := plaint.Asked(c, x); a != served || b != left || e != api.OK {
			t.Fatal(c, x, a, b, served, left, e)
		}
		if v == plaint.Open && (best == None || max(served, left) < most) {
			best, most = x, max(served, left)
		}
	}
	k, n, e := plaint.Ask(c)
	if best == None && (k != 0 || n != 0 || e != api.ErrNone) || best != None && (k != best || n != most || e != api.OK) {
		t.Fatal(c, k, n, e, best, most)
	}
	return e
}

// TestP96Every goes through all drives of small cases, once for each answer.
func TestP96Every(t *testing.T) {
	l := &luck{12}
	met := map[api.Errno]int{}
	for range 200 {
		c := l.plaint(small())
		var fit []tale
		each(c, func(d tale) {
			if d.lies() <= c.Lies {
				fit = append(fit, d)
			}
		})
		if len(fit) == 0 {
			k, n, e := plaint.Ask(c)
			if k != 0 || n != 0 || e != api.ErrClash {
				t.Fatal(c, k, n, e)
			}
			continue
		}
		open := func(agrees func(d tale) bool) (streets int) {
			for y := range c.Town.Streets {
				yes, no := 0, 0
				for _, d := range fit {
					yes += count(agrees(d) && d.serves(y))
					no += count(agrees(d) && !d.serves(y))
				}
				streets += count(yes > 0 && no > 0)
			}
			return streets
		}
		verdicts, e := plaint.Verdicts(c)
		noError(t, e)
		met[asksAsWanted(t, c, func(x int, served bool) int {
			return open(func(d tale) bool { return d.serves(x) == served })
		}, verdicts)]++
	}
	if met[api.OK] < 60 || met[api.ErrNone] < 20 {
		t.Error("cases with streets that are open, and without:", met)
	}
}

// TestP96Large asks cases of all sizes by all that can come of drives.
func TestP96Large(t *testing.T) {
	l := &luck{13}
	met, later := map[api.Errno]int{}, 0
	for i := range 200 {
		c := l.plaint(sizes(i))
		can := outcomesOf(c).fitting()
		if can.none() {
			k, n, e := plaint.Ask(c)
			a, b, f := 0, 0, api.ErrClash
			if len(c.Town.Streets) > 0 {
				a, b, f = plaint.Asked(c, 0)
			}
			if k != 0 || n != 0 || e != api.ErrClash || a != 0 || b != 0 || f != api.ErrClash {
				t.Fatal(c, k, n, e, a, b, f)
			}
			continue
		}
		verdicts := can.judged()
		met[asksAsWanted(t, c, func(x int, served bool) int { return can.without(x, served).open() }, verdicts)]++
		if k, _, e := plaint.Ask(c); e == api.OK {
			for _, v := range verdicts[:k] {
				later += count(v == plaint.Open)
			}
		}
	}
	if met[api.OK] < 80 || met[api.ErrNone] < 20 || later < 10 {
		t.Error("cases with streets that are open, and without, and open streets that are not the best to ask:", met, later)
	}
}
