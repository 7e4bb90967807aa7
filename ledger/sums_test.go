package ledger_test

import (
	"math"
	"slices"
	"testing"

	"laystall/api"
	"laystall/ledger"
)

// told holds what is told of a sheet's sums against the words of the chapter.
func told(t *testing.T, s ledger.Sheet) {
	t.Helper()
	if is, e := ledger.Right(s); is != rightOf(s) || e != api.OK {
		t.Fatal(s, is, e)
	}
	for _, c := range []ledger.Check{ledger.Across, ledger.Down, ledger.On} {
		if l, e := ledger.Wrong(s, c); !slices.Equal(l, wrongOf(s, c)) || e != api.OK {
			t.Fatal(s, c, l, e, wrongOf(s, c))
		}
	}
	entries, e := ledger.Entries(s)
	totals, f := ledger.Totals(s)
	want := api.OK
	switch {
	case isTorn(s):
		want = api.ErrState
	case !rightOf(s):
		want = api.ErrWrong
	}
	if e != want || f != want || want != api.OK && (entries != nil || totals != nil) {
		t.Fatal(s, entries, totals, e, f, want)
	}
	if want == api.OK && (!same(s, sheetOf(s.Kind, entries)) || !slices.Equal(totals, s.Pages[len(s.Pages)-1].Carried)) {
		t.Fatal(s, entries, totals)
	}
}

// TestP112Right: a sheet of entries is right, and tells them.
func TestP112Right(t *testing.T) {
	l := &luck{3}
	for range 500 {
		k := l.kind()
		want := l.entries(k, l.below(25), l.limit())
		s := sheetOf(k, want)
		is, e := ledger.Right(s)
		entries, f := ledger.Entries(s)
		totals, g := ledger.Totals(s)
		if !is || !slices.EqualFunc(entries, want, slices.Equal[[]int]) || (len(totals) == 0) != (len(want) == 0) {
			t.Fatal(s, is, entries, totals)
		}
		noError(t, e, f, g)
		for column := range totals {
			n := 0
			for _, entry := range want {
				n += append(slices.Clone(entry), total(entry))[column]
			}
			if totals[column] != n {
				t.Fatal(s, totals)
			}
		}
	}
}

// TestP112Wrong damages figures of sheets, and tears lines.
func TestP112Wrong(t *testing.T) {
	l := &luck{4}
	right, torn, wrong := 0, 0, 0
	for i := range 1500 {
		s := l.torn(l.damaged(l.sheet(), l.below(5)), []int{0, 0, 1, 3}[i%4])
		told(t, s)
		right += count(rightOf(s))
		torn += count(isTorn(s))
		wrong += count(!isTorn(s) && !rightOf(s))
	}
	if right < 100 || torn < 300 || wrong < 300 {
		t.Error("sheets that are right, torn, and wrong:", right, torn, wrong)
	}
}

// TestP112Places damages each figure of a sheet of each kind, and tears each line of it besides.
func TestP112Places(t *testing.T) {
	l := &luck{5}
	for _, k := range kinds() {
		s := sheetOf(k, l.entries(k, 10, 99))
		for _, p := range places(s) {
			bad := putOf(s, p, l.other(*figureAt(s, p)))
			told(t, bad)
			told(t, tornOf(bad, l.spot(s)))
		}
		for _, spot := range spots(s) {
			told(t, tornOf(s, spot))
		}
	}
}

// TestP112Entry: a sheet is not right if an entry is too great, or would have to be less than 0, though all of its sums agree.
func TestP112Entry(t *testing.T) {
	for _, k := range kinds() {
		for column := range columnsOf(k) {
			for row := range 5 {
				for _, n := range list(99999, 100000) {
					entries := slices.Repeat([][]int{make([]int, columnsOf(k))}, 5)
					entries[row] = slices.Clone(entries[row])
					entries[row][column] = n
					s := sheetOf(k, entries)
					told(t, s)
					if is, e := ledger.Right(s); is != (n == 99999) || e != api.OK {
						t.Error(k, column, row, n, is, e)
					}
				}
			}
		}
	}
}

// TestP112Edges asks for the chapter's example, for sheets without pages, and for checks that there are not.
func TestP112Edges(t *testing.T) {
	s := example()
	told(t, s)
	for i, x := range []struct {
		m                ledger.Mending
		across, down, on []ledger.Place
	}{
		{put(0, 1, 2, 1006), nil, nil, nil},
		{put(0, 1, 2, 1000), []ledger.Place{at(0, 1, 3)}, []ledger.Place{at(0, 4, 2)}, nil},
		{put(0, 1, 3, 1000), []ledger.Place{at(0, 1, 3)}, []ledger.Place{at(0, 4, 3)}, nil},
		{put(0, 4, 1, 1000), []ledger.Place{at(0, 4, 3)}, []ledger.Place{at(0, 4, 1)}, []ledger.Place{at(0, 5, 1)}},
		{put(0, 5, 3, 1000), []ledger.Place{at(0, 5, 3)}, nil, []ledger.Place{at(0, 5, 3), at(1, 5, 3)}},
		{put(1, 5, 0, 0), []ledger.Place{at(1, 5, 3)}, nil, []ledger.Place{at(1, 5, 0)}},
	} {
		bad := putOf(s, x.m.At, x.m.Figure)
		across, e := ledger.Wrong(bad, ledger.Across)
		down, f := ledger.Wrong(bad, ledger.Down)
		on, g := ledger.Wrong(bad, ledger.On)
		if !slices.Equal(across, x.across) || !slices.Equal(down, x.down) || !slices.Equal(on, x.on) {
			t.Error(i, across, down, on)
		}
		noError(t, e, f, g)
	}
	for _, c := range []ledger.Check{-1, 3, math.MinInt, math.MaxInt} {
		if l, e := ledger.Wrong(s, c); l != nil || e != api.ErrNoSuch {
			t.Error(c, l, e)
		}
	}
	if n, e := ledger.Totals(s); !slices.Equal(n, list(2, 305, 5036, 5343)) || e != api.OK {
		t.Error(n, e)
	}
	for _, k := range kinds() {
		none := ledger.Sheet{Kind: k}
		is, e := ledger.Right(none)
		l, f := ledger.Entries(none)
		n, g := ledger.Totals(none)
		p, h := ledger.Wrong(none, ledger.On)
		if !is || len(l)+len(n)+len(p) > 0 {
			t.Error(k, is, l, n, p)
		}
		noError(t, e, f, g, h)
	}
}
