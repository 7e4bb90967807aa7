package ledger_test

import (
	"math"
	"slices"
	"testing"

	"laystall/api"
	"laystall/ledger"
)

// mends holds Mend of a sheet against all ways to mend it, and returns whether there is one.
func mends(t *testing.T, s ledger.Sheet) bool {
	t.Helper()
	ways := mendingsOf(s)
	m, e := ledger.Mend(s)
	switch {
	case isTorn(s) || rightOf(s):
		if m != (ledger.Mending{}) || e != api.ErrState {
			t.Fatal(s, m, e)
		}
	case len(ways) == 0:
		if m != (ledger.Mending{}) || e != api.ErrNone {
			t.Fatal(s, m, e)
		}
	case len(ways) > 1 || m != ways[0] || e != api.OK:
		t.Fatal(s, m, e, ways)
	}
	return e == api.OK
}

// TestP113Mend damages each figure of sheets of all kinds and all numbers of rows: it is found, and mended as it was.
func TestP113Mend(t *testing.T) {
	l := &luck{6}
	for _, k := range kinds() {
		for rows := 1; rows <= 24; rows++ {
			s := sheetOf(k, l.entries(k, rows, l.limit()))
			for _, p := range places(s) {
				was := *figureAt(s, p)
				m, e := ledger.Mend(putOf(s, p, l.other(was)))
				if m.At != p || m.Figure != was || e != api.OK {
					t.Fatal(s, p, m, e)
				}
			}
		}
	}
}

// TestP113Ways damages several figures, some of which can be mended by another one.
func TestP113Ways(t *testing.T) {
	l := &luck{7}
	can, not := 0, 0
	for range 1200 {
		k := l.kind()
		s := l.damaged(sheetOf(k, l.entries(k, l.from(1, 9), 3)), l.below(4))
		is := mends(t, s)
		can += count(is)
		not += count(!is)
	}
	if can < 250 || not < 500 {
		t.Error("sheets that can be mended, and others:", can, not)
	}
}

// TestP113Other: a sheet in which three figures out of four are those of another right sheet is mended as this one.
func TestP113Other(t *testing.T) {
	entries := five()
	entries[0][2], entries[1][2] = 1004, 1005
	other := sheetOf(ledger.Weights, entries)
	var differ []ledger.Place
	for _, p := range places(other) {
		if *figureAt(other, p) != *figureAt(example(), p) {
			differ = append(differ, p)
		}
	}
	if len(differ) != 4 {
		t.Fatal(differ)
	}
	for left, p := range differ {
		s := example()
		for i, q := range differ {
			if i != left {
				s = putOf(s, q, *figureAt(other, q))
			}
		}
		if m, e := ledger.Mend(s); m != (ledger.Mending{At: p, Figure: *figureAt(other, p)}) || e != api.OK {
			t.Error(p, m, e)
		}
		mends(t, s)
		if m, e := ledger.Mend(putOf(s, differ[(left+1)%4], 5)); m != (ledger.Mending{}) || e != api.ErrNone {
			t.Error(p, m, e)
		}
	}
}

// TestP113MendEdges asks for the chapter's example, and for sheets that only an entry would mend that cannot be.
func TestP113MendEdges(t *testing.T) {
	if m, e := ledger.Mend(putOf(example(), at(0, 1, 2), 1000)); m != put(0, 1, 2, 1006) || e != api.OK {
		t.Error(m, e)
	}
	great := sheetOf(ledger.Lots, [][]int{{0, 100000, 0}})
	less := sheetOf(ledger.Lots, [][]int{{5, 7, 9}, {1, -1, 1}})
	least := sheetOf(ledger.Lots, [][]int{{5, 7, 9}, {1, 0, 1}})
	greatest := sheetOf(ledger.Lots, [][]int{{0, 99999, 0}})
	for i, x := range []struct {
		s ledger.Sheet
		e api.Errno
	}{
		{great, api.ErrNone},
		{putOf(great, at(0, 0, 1), 99999), api.ErrNone},
		{putOf(less, at(0, 1, 1), 0), api.ErrNone},
		{putOf(least, at(0, 1, 1), 1), api.OK},
		{putOf(greatest, at(0, 0, 1), 100000), api.OK},
		{putOf(greatest, at(0, 0, 1), 99999999), api.OK},
		{greatest, api.ErrState},
		{ledger.Sheet{}, api.ErrState},
		{tornOf(great, [2]int{0, 0}), api.ErrState},
	} {
		if m, e := ledger.Mend(x.s); e != x.e || (m == ledger.Mending{}) != (e != api.OK) {
			t.Error(i, m, e)
		}
	}
}

// TestP113Put puts figures at each place of sheets, and at places that there are not.
func TestP113Put(t *testing.T) {
	l := &luck{8}
	for range 60 {
		s := l.torn(l.damaged(l.sheet(), l.below(2)), l.below(3))
		for _, spot := range spots(s) {
			for column := -1; column <= columnsOf(s.Kind)+1; column++ {
				n := l.some(0, 99999999)
				got, e := ledger.Put(s, put(spot[0], spot[1], column, n))
				switch {
				case column < 0 || column > columnsOf(s.Kind):
					if !same(got, ledger.Sheet{}) || e != api.ErrNoSuch {
						t.Fatal(s, spot, column, e)
					}
				case len(*lineAt(s, spot[0], spot[1])) == 0:
					if !same(got, ledger.Sheet{}) || e != api.ErrState {
						t.Fatal(s, spot, column, e)
					}
				case !same(got, putOf(s, at(spot[0], spot[1], column), n)) || e != api.OK:
					t.Fatal(s, spot, column, n, got, e)
				}
			}
		}
	}
	for i, x := range []struct {
		m ledger.Mending
		e api.Errno
	}{
		{put(0, 0, 0, 0), api.OK},
		{put(0, 3, 3, 99999999), api.OK},
		{put(0, 0, 0, -1), api.ErrRange},
		{put(1, 5, 3, 100000000), api.ErrRange},
		{put(0, 4, 0, math.MinInt), api.ErrRange},
		{put(0, 4, 0, math.MaxInt), api.ErrRange},
		{put(-1, 0, 0, 5), api.ErrNoSuch},
		{put(2, 0, 0, 5), api.ErrNoSuch},
		{put(math.MaxInt, 0, 0, 5), api.ErrNoSuch},
		{put(0, -1, 0, 5), api.ErrNoSuch},
		{put(0, 6, 0, 5), api.ErrNoSuch},
		{put(1, 1, 0, -1), api.ErrNoSuch},
		{put(1, 3, 0, 5), api.ErrNoSuch},
		{put(0, math.MinInt, 0, 5), api.ErrNoSuch},
		{put(0, 0, math.MaxInt, 5), api.ErrNoSuch},
	} {
		if s, e := ledger.Put(example(), x.m); e != x.e || (s.Pages == nil) != (e != api.OK) {
			t.Error(i, s, e)
		}
	}
	if _, e := ledger.Put(ledger.Sheet{}, put(0, 4, 0, 0)); e != api.ErrNoSuch {
		t.Error(e)
	}
}

// TestP113Tear tears each line of sheets, one after the other, and each one once more.
func TestP113Tear(t *testing.T) {
	l := &luck{9}
	for range 60 {
		s := l.damaged(l.sheet(), l.below(2))
		for _, spot := range slices.Concat(spots(s), spots(s)) {
			torn, e := ledger.Tear(s, spot[0], spot[1])
			if !same(torn, tornOf(s, spot)) || e != api.OK {
				t.Fatal(s, spot, torn, e)
			}
			s = torn
		}
	}
	for _, spot := range [][2]int{{-1, 0}, {2, 0}, {0, -1}, {0, 6}, {1, 1}, {1, 3}, {math.MaxInt, 4}, {math.MinInt, 4}, {0, math.MaxInt}, {0, math.MinInt}} {
		if s, e := ledger.Tear(example(), spot[0], spot[1]); !same(s, ledger.Sheet{}) || e != api.ErrNoSuch {
			t.Error(spot, s, e)
		}
	}
	if _, e := ledger.Tear(ledger.Sheet{}, 0, 4); e != api.ErrNoSuch {
		t.Error(e)
	}
}

// restoredOf tells the torn lines of a sheet, the last one that can be told first, figure by figure. It returns whether all of them were told.
func restoredOf(s ledger.Sheet) (ledger.Sheet, bool) {
	s = copyOf(s)
	unknown := map[ledger.Place]bool{}
	for _, spot := range spots(s) {
		if l := lineAt(s, spot[0], spot[1]); len(*l) == 0 {
			*l = make(ledger.Line, columnsOf(s.Kind)+1)
			for column := range *l {
				unknown[at(spot[0], spot[1], column)] = true
			}
		}
	}
	sums := slices.DeleteFunc(sumsOf(s), func(sum aSum) bool { return sum.check == ledger.Across })
	slices.Reverse(sums)
	for told := true; told; {
		told = false
		for _, sum := range sums {
			missing := slices.DeleteFunc(slices.Clone(sum.parts), func(p part) bool { return !unknown[p.Place] })
			if len(missing) == 1 {
				*figureAt(s, missing[0].Place) = -missing[0].sign * off(s, sum)
				delete(unknown, missing[0].Place)
				told = true
			}
		}
	}
	return s, len(unknown) == 0
}

// fits reports whether all figures of a sheet can be figures.
func fits(s ledger.Sheet) bool {
	return !slices.ContainsFunc(places(s), func(p ledger.Place) bool {
		n := *figureAt(s, p)
		return n < 0 || n > 99999999 || p.Line < 4 && p.Column < columnsOf(s.Kind) && n > 99999
	})
}

// restores holds Restore of a sheet against the words of the chapter, and returns its error.
func restores(t *testing.T, s ledger.Sheet) api.Errno {
	t.Helper()
	want, all := restoredOf(s)
	got, e := ledger.Restore(s)
	switch {
	case !all:
		if !same(got, ledger.Sheet{}) || e != api.ErrNone {
			t.Fatal(s, got, e)
		}
	case !fits(want) || !rightOf(want):
		if !same(got, ledger.Sheet{}) || e != api.ErrWrong {
			t.Fatal(s, got, e)
		}
	case !same(got, want) || e != api.OK:
		t.Fatal(s, got, e, want)
	}
	return e
}

// TestP113RestoreEvery tears all sets of lines of sheets of one and two pages, and some of one with three.
func TestP113RestoreEvery(t *testing.T) {
	l := &luck{10}
	for _, rows := range list(1, 3, 5, 9) {
		k := l.kind()
		s := sheetOf(k, l.entries(k, rows, 99999))
		all := spots(s)
		told, none := 0, 0
		for set := range 1 << len(all) {
			if rows == 9 && l.below(16) > 0 {
				continue
			}
			var torn [][2]int
			for i, spot := range all {
				if set>>i&1 == 1 {
					torn = append(torn, spot)
				}
			}
			e := restores(t, tornOf(s, torn...))
			if got, _ := ledger.Restore(tornOf(s, torn...)); e == api.OK && !same(got, s) {
				t.Fatal(s, torn, got)
			}
			told += count(e == api.OK)
			none += count(e == api.ErrNone)
		}
		if told < 7 || none < 1 {
			t.Error(rows, "rows: sets that are told, and others:", told, none)
		}
	}
}

// TestP113RestoreDamaged tears lines of sheets of which some figures are damaged, too.
func TestP113RestoreDamaged(t *testing.T) {
	l := &luck{11}
	var all [13]int
	for i := range 3000 {
		s := l.sheet()
		if l.below(3) == 0 {
			k := l.kind()
			s = sheetOf(k, l.entries(k, l.from(1, 4), 5))
		}
		bad := l.damaged(s, []int{0, 1, 1, 2}[i%4])
		all[restores(t, l.torn(bad, l.below(4)))]++
	}
	if all[api.OK] < 300 || all[api.ErrNone] < 300 || all[api.ErrWrong] < 300 {
		t.Error("errors:", all)
	}
}

// TestP113RestoreEdges asks for the chapter's examples, and for lines that would have figures that cannot be.
func TestP113RestoreEdges(t *testing.T) {
	less := ledger.Sheet{Kind: ledger.Lots, Pages: []ledger.Page{{Rows: []ledger.Line{line(5, 0, 0, 5), nil}, Sum: line(4, 0, 0, 4), Carried: line(4, 0, 0, 4)}}}
	even := ledger.Sheet{Kind: ledger.Lots, Pages: []ledger.Page{{Rows: []ledger.Line{line(5, 0, 0, 5), nil}, Sum: line(5, 0, 0, 5), Carried: line(5, 0, 0, 5)}}}
	great := ledger.Sheet{Kind: ledger.Lots, Pages: []ledger.Page{{Rows: []ledger.Line{nil}, Sum: line(100000, 0, 0, 100000), Carried: line(100000, 0, 0, 100000)}}}
	greatest := ledger.Sheet{Kind: ledger.Lots, Pages: []ledger.Page{{Rows: []ledger.Line{nil}, Sum: line(99999, 0, 0, 99999), Carried: line(99999, 0, 0, 99999)}}}
	const most = 99999999
	huge := ledger.Sheet{Kind: ledger.Lots, Pages: []ledger.Page{{Rows: []ledger.Line{line(most, 0, 0, most), line(most, 0, 0, most)}}}}
	for i, x := range []struct {
		s ledger.Sheet
		e api.Errno
	}{
		{example(), api.OK},
		{tornOf(example(), [2]int{0, 2}), api.OK},
		{tornOf(example(), [2]int{0, 2}, [2]int{0, 4}), api.OK},
		{tornOf(example(), [2]int{0, 2}, [2]int{0, 4}, [2]int{0, 5}), api.OK},
		{tornOf(example(), [2]int{0, 2}, [2]int{0, 3}), api.ErrNone},
		{tornOf(example(), [2]int{0, 2}, [2]int{0, 4}, [2]int{0, 5}, [2]int{1, 5}), api.ErrNone},
		{tornOf(putOf(example(), at(0, 3, 1), 91), [2]int{0, 2}, [2]int{0, 3}), api.ErrNone},
		{tornOf(putOf(example(), at(1, 0, 1), 91), [2]int{0, 2}, [2]int{0, 3}), api.ErrNone},
		{tornOf(putOf(example(), at(0, 3, 1), 91), [2]int{0, 2}), api.ErrWrong},
		{putOf(example(), at(0, 3, 1), 91), api.ErrWrong},
		{less, api.ErrWrong},
		{even, api.OK},
		{great, api.ErrWrong},
		{greatest, api.OK},
		{huge, api.ErrWrong},
		{ledger.Sheet{}, api.OK},
	} {
		if e := restores(t, x.s); e != x.e {
			t.Error(i, e)
		}
	}
}
