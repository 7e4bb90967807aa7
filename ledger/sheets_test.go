package ledger_test

import (
	"math"
	"slices"
	"testing"

	"laystall/api"
	"laystall/ledger"
)

// TestP111Columns asks for the columns of all kinds, and of those next to them. Who changes them changes nothing of what is told next.
func TestP111Columns(t *testing.T) {
	for range 2 {
		for i, want := range names() {
			l, e := ledger.Columns(ledger.Kind(i))
			if !slices.Equal(l, want) || e != api.OK {
				t.Error(i, l, e)
			}
			clear(l[:cap(l)])
		}
	}
	for _, k := range []ledger.Kind{-1, 6, math.MinInt, math.MaxInt} {
		if l, e := ledger.Columns(k); l != nil || e != api.ErrNoSuch {
			t.Error(k, l, e)
		}
	}
}

// TestP111Make makes sheets of all kinds and of all numbers of rows, up to 25.
func TestP111Make(t *testing.T) {
	l := &luck{1}
	for _, k := range kinds() {
		for rows := range 26 {
			for _, limit := range list(0, 9, 99999) {
				entries := l.entries(k, rows, limit)
				s, e := ledger.Make(k, entries)
				if rows == 25 {
					if s.Kind != 0 || s.Pages != nil || e != api.ErrCount {
						t.Error(k, s, e)
					}
					continue
				}
				if !same(s, sheetOf(k, entries)) || e != api.OK || len(s.Pages) != (rows+3)/4 {
					t.Error(k, entries, s, e)
				}
			}
		}
	}
	most, e := ledger.Make(ledger.Trays, slices.Repeat([][]int{{99999, 99999, 99999, 99999, 99999}}, 24))
	if last := most.Pages[5].Carried; !slices.Equal(last, line(2399976, 2399976, 2399976, 2399976, 2399976, 11999880)) || e != api.OK {
		t.Error(last, e)
	}
}

// TestP111MakeEdges asks for the chapter's example, and for entries that have an error.
func TestP111MakeEdges(t *testing.T) {
	s, e := ledger.Make(ledger.Weights, five())
	want := ledger.Sheet{Kind: ledger.Weights, Pages: []ledger.Page{
		{
			Rows:    []ledger.Line{line(0, 10, 1003, 1013), line(0, 50, 1006, 1056), line(1, 60, 2000, 2061), line(0, 90, 997, 1087)},
			Sum:     line(1, 210, 5006, 5217),
			Carried: line(1, 210, 5006, 5217),
		},
		{Rows: []ledger.Line{line(1, 95, 30, 126)}, Sum: line(1, 95, 30, 126), Carried: line(2, 305, 5036, 5343)},
	}}
	if !same(s, want) || e != api.OK {
		t.Error(s, e)
	}
	for i, x := range []struct {
		k       ledger.Kind
		entries [][]int
		e       api.Errno
	}{
		{ledger.Lots, nil, api.OK},
		{ledger.Lots, [][]int{}, api.OK},
		{ledger.Lots, [][]int{nil}, api.ErrCount},
		{ledger.Lots, [][]int{{1, 2, 3}, {}}, api.ErrCount},
		{ledger.Lots, [][]int{{1, 2, -3}, {1, 2}}, api.ErrCount},
		{ledger.Lots, [][]int{{1, 2, 3, 4}}, api.ErrCount},
		{ledger.Lots, slices.Repeat([][]int{{-1, 2, 3}}, 25), api.ErrCount},
		{ledger.Lots, [][]int{{0, 99999, 0}}, api.OK},
		{ledger.Lots, [][]int{{0, 0, 0}, {0, 0, 100000}}, api.ErrRange},
		{ledger.Lots, [][]int{{-1, 0, 0}}, api.ErrRange},
		{ledger.Lots, [][]int{{math.MinInt, math.MaxInt, math.MaxInt}}, api.ErrRange},
		{-1, nil, api.ErrNoSuch},
		{6, slices.Repeat([][]int{{-1}}, 25), api.ErrNoSuch},
	} {
		if s, e := ledger.Make(x.k, x.entries); e != x.e || e != api.OK && !same(s, ledger.Sheet{}) || e == api.OK && s.Kind != x.k {
			t.Error(i, s, e)
		}
	}
}

// TestP111FormCounts goes through sheets of all kinds with up to eight pages, one of which has any number of rows.
func TestP111FormCounts(t *testing.T) {
	for _, k := range kinds() {
		for pages := range 9 {
			for odd := range pages {
				for rows := range 7 {
					s := ledger.Sheet{Kind: k, Pages: make([]ledger.Page, pages)}
					for i := range s.Pages {
						s.Pages[i].Rows = make([]ledger.Line, 4)
					}
					s.Pages[odd].Rows = make([]ledger.Line, rows)
					want := api.ErrCount
					if pages <= 6 && (rows == 4 || odd == pages-1 && 1 <= rows && rows < 4) {
						want = api.OK
					}
					if e := ledger.Form(s); e != want {
						t.Error(k, pages, odd, rows, e)
					}
				}
			}
		}
		if e := ledger.Form(ledger.Sheet{Kind: k}); e != api.OK {
			t.Error(k, e)
		}
	}
	for _, k := range []ledger.Kind{-1, 6, math.MinInt, math.MaxInt} {
		if e := ledger.Form(ledger.Sheet{Kind: k, Pages: make([]ledger.Page, 7)}); e != api.ErrNoSuch {
			t.Error(k, e)
		}
	}
}

// TestP111FormLines gives each line of sheets of all kinds another length, and each figure another value.
func TestP111FormLines(t *testing.T) {
	l := &luck{2}
	for _, k := range kinds() {
		s := sheetOf(k, l.entries(k, 6, 99999))
		for _, spot := range spots(s) {
			for figures := range 9 {
				other := copyOf(s)
				*lineAt(other, spot[0], spot[1]) = make(ledger.Line, figures)
				want := api.ErrCount
				if figures == 0 || figures == columnsOf(k)+1 {
					want = api.OK
				}
				if e := ledger.Form(other); e != want {
					t.Error(k, spot, figures, e)
				}
			}
		}
		for _, p := range places(s) {
			for _, n := range list(0, 99999, 100000, 99999999, 100000000, -1, math.MinInt, math.MaxInt) {
				want := api.OK
				if n < 0 || n > 99999999 {
					want = api.ErrRange
				}
				if e := ledger.Form(putOf(s, p, n)); e != want {
					t.Error(k, p, n, e)
				}
			}
		}
	}
}
