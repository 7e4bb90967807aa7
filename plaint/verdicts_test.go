package plaint_test

import (
	"slices"
	"testing"

	"laystall/api"
	"laystall/plaint"
	"laystall/street"
)

// showFits fails a test unless drives are shown that fit and serve a street, or do not, just where the verdict says that there are any.
func showFits(t *testing.T, c plaint.Case, x int, can func(served bool) bool) {
	t.Helper()
	for _, served := range []bool{true, false} {
		d, e := plaint.Show(c, x, served)
		if !can(served) {
			if d != nil || e != api.ErrNone {
				t.Fatal(c, x, served, d, e)
			}
			continue
		}
		shown, is := taleOf(c, d)
		if e != api.OK || !is || shown.lies() > c.Lies || shown.serves(x) != served || len(d) > plaint.MaxSteps {
			t.Fatal(c, x, served, d, e)
		}
	}
}

// judged fails a test unless all verdicts, each of them alone, and the drives that are shown are as wanted; nil if no drive fits.
func judged(t *testing.T, c plaint.Case, want []plaint.Verdict) {
	t.Helper()
	e := api.OK
	if want == nil {
		e = api.ErrClash
	}
	l, f := plaint.Verdicts(c)
	if !slices.Equal(l, want) || f != e {
		t.Fatal(c, l, want, f)
	}
	for x := range c.Town.Streets {
		if v, f := plaint.Judge(c, x); f != e || e == api.OK && v != want[x] || e != api.OK && v != 0 {
			t.Fatal(c, x, v, f)
		}
		showFits(t, c, x, func(served bool) bool {
			return e == api.OK && (want[x] == plaint.Open || want[x] == plaint.Served && served || want[x] == plaint.Left && !served)
		})
	}
}

// TestP93Examples: the chapter's examples 2, 3 and 5, and others by hand.
func TestP93Examples(t *testing.T) {
	const o, s, n = plaint.Open, plaint.Served, plaint.Left
	lie := func(c plaint.Case) plaint.Case { c.Lies++; return c }
	oneWay, shut := examples(), examples()
	oneWay.Town.Streets[1].Back = false
	shut.Town.Streets[2].Shut = api.Span{Lo: 5, Hi: 5}
	slow := quiet(town(2, plain(0, 1, 20), plain(1, 0, 30)), 50)
	for _, x := range []struct {
		c    plaint.Case
		want []plaint.Verdict
	}{
		{examples(), verdicts(o, o, o)},
		{examples(away(2, 0, 40)), verdicts(s, s, n)},
		{lie(examples(away(2, 0, 40))), verdicts(o, o, o)},
		{lie(examples(away(2, 0, 40), seen(1, 5, 5))), verdicts(s, s, n)},
		{examples(seen(1, 5, 5)), nil},
		{oneWay, verdicts(o, o, o)},
		{shut, verdicts(s, s, o)}, // street 2 cannot be driven before the minute 6, but back from 20 on
		{told(oneWay, 0, seen(2, 20, 20), away(2, 0, 15)), verdicts(s, s, o)},
		{slow, verdicts(o, o)},
		{told(slow, 0, seen(1, 20, 20)), verdicts(s, o)},
		{told(slow, 0, seen(1, 20, 20), seen(0, 40, 40)), verdicts(s, n)},
		{told(slow, 0, seen(1, 21, 29), away(0, 21, 60), seen(0, 50, 50)), nil},
		{told(slow, 0, seen(1, 20, 20), away(0, 21, 60), seen(0, 50, 50)), verdicts(s, s)},
		{told(slow, 0, seen(1, 20, 21), seen(0, 50, 50), passed(1, 20, 50)), verdicts(s, s)},
		{told(slow, 0, seen(0, 50, 50), seen(0, 25, 25)), verdicts(n, n)},
		{told(slow, 1, seen(0, 50, 50), seen(0, 25, 25)), verdicts(o, o)},
		{quiet(triangle(), 0), verdicts(n, n, n)},
		{quiet(triangle(), 9), verdicts(n, n, n)},
		{quiet(triangle(), 10), verdicts(o, n, n)},
		{quiet(triangle(), 15), verdicts(o, n, o)},
		{quiet(triangle(), 20), verdicts(o, o, o)},
	} {
		judged(t, x.c, x.want)
	}
	for until, want := range map[int]api.Errno{60: api.OK, 59: api.ErrClash} {
		if l, e := plaint.Verdicts(told(quiet(town(1), until), 0, seen(0, 60, 60))); len(l) != 0 || e != want {
			t.Error("no streets:", until, l, e)
		}
	}
}

// TestP93Both: the same cart passes a street forth and back, and both serve it; streets that no cart of its kind may drive were left.
func TestP93Both(t *testing.T) {
	const o, s, n = plaint.Open, plaint.Served, plaint.Left
	c := quiet(town(3, plain(0, 1, 10), plain(2, 1, 10), plain(0, 2, 10)), 20)
	c.Town.Streets[2].Wide = 2
	judged(t, told(c, 0, seen(2, 20, 20)), verdicts(s, s, n))
	judged(t, told(c, 0, seen(1, 10, 10), seen(0, 20, 20)), verdicts(s, n, n))
	c.Town.Streets[1].Back = false
	judged(t, told(c, 0, seen(1, 10, 10)), verdicts(s, n, n))
	judged(t, told(c, 0, seen(2, 20, 20)), nil)
	heavy := quiet(town(2, plain(0, 1, 5), plain(0, 1, 5), plain(0, 1, 5)), 12)
	heavy.Cart = street.Cart{Wide: 9, Load: 9}
	heavy.Town.Streets[1].Bears, heavy.Town.Streets[2].Up = 8, 1
	judged(t, told(heavy, 0, seen(1, 12, 12)), verdicts(s, n, n))
	judged(t, told(heavy, 0, seen(1, 0, 12)), verdicts(s, n, o)) // street 2 is steep forth only
	heavy.Until = 14
	judged(t, told(heavy, 0, seen(1, 14, 14)), verdicts(o, n, o))
}

// TestP93Every goes through all drives of small cases.
func TestP93Every(t *testing.T) {
	l := &luck{6}
	met := map[plaint.Verdict]int{}
	for range 200 {
		c := l.plaint(small())
		fit, served := 0, make([]int, len(c.Town.Streets))
		each(c, func(d tale) {
			if d.lies() > c.Lies {
				return
			}
			fit++
			for x := range served {
				served[x] += count(d.serves(x))
			}
		})
		var want []plaint.Verdict
		for _, n := range served {
			v := plaint.Open
			switch n {
			case fit:
				v = plaint.Served
			case 0:
				v = plaint.Left
			}
			want = append(want, v)
			met[v]++
		}
		if fit == 0 {
			want = nil
		}
		if fit == 0 || len(want) > 0 {
			judged(t, c, want)
		}
	}
	if met[plaint.Open] < 100 || met[plaint.Served] < 30 || met[plaint.Left] < 30 {
		t.Error("verdicts of each kind:", met)
	}
}

// TestP93Large asks cases of all sizes by all that can come of drives.
func TestP93Large(t *testing.T) {
	l := &luck{7}
	met := map[plaint.Verdict]int{}
	for i := range 240 {
		c := l.plaint(sizes(i))
		can := outcomesOf(c).fitting()
		if can.none() {
			judged(t, c, nil)
			continue
		}
		want := can.judged()
		for _, v := range want {
			met[v]++
		}
		if len(want) > 0 {
			judged(t, c, want)
		}
	}
	if met[plaint.Open] < 200 || met[plaint.Served] < 15 || met[plaint.Left] < 100 {
		t.Error("verdicts of each kind:", met)
	}
}
