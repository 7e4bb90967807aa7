package ledger_test

import (
	"slices"
	"testing"

	"laystall/api"
	"laystall/ledger"
)

// TestP114Apart counts the figures that were damaged, in one sheet and in the other one.
func TestP114Apart(t *testing.T) {
	l := &luck{12}
	for range 400 {
		s := l.sheet()
		once := l.damaged(s, l.below(9))
		twice := l.damaged(once, l.below(9))
		want := 0
		for _, p := range places(s) {
			want += count(*figureAt(s, p) != *figureAt(twice, p))
		}
		n, e := ledger.Apart(s, twice)
		m, f := ledger.Apart(twice, s)
		if n != want || m != want {
			t.Fatal(s, twice, n, m)
		}
		noError(t, e, f)
	}
}

// TestP114Four: two right sheets with as many rows are the same, or differ in at least four figures.
func TestP114Four(t *testing.T) {
	var sheets []ledger.Sheet
	for n := range 1 << 10 {
		entries := [][]int{{0, 0, 0}, {0, 0, 0}, {0, 0, 0}, {0, 0, 0}, {0, 0, 0}}
		for bit := range 10 {
			entries[bit/2][bit%2] = n >> bit & 1
		}
		if n%7 == 0 {
			sheets = append(sheets, sheetOf(ledger.Lots, entries))
		}
	}
	four := 0
	for i, a := range sheets {
		for j, b := range sheets {
			n, e := ledger.Apart(a, b)
			if (n == 0) != (i == j) || n > 0 && n < 4 || e != api.OK {
				t.Fatal(a, b, n, e)
			}
			four += count(n == 4)
		}
	}
	if four < 20 {
		t.Error("pairs that differ in four figures:", four)
	}
}

// TestP114Join joins sheets of all numbers of rows.
func TestP114Join(t *testing.T) {
	l := &luck{13}
	for rows := range 25 {
		for more := range 25 {
			k := l.kind()
			a, b := l.entries(k, rows, l.limit()), l.entries(k, more, l.limit())
			s, e := ledger.Join(sheetOf(k, a), sheetOf(k, b))
			if rows+more > 24 {
				if !same(s, ledger.Sheet{}) || e != api.ErrCount {
					t.Fatal(rows, more, s, e)
				}
				continue
			}
			if !same(s, sheetOf(k, slices.Concat(a, b))) || e != api.OK {
				t.Fatal(a, b, s, e)
			}
		}
	}
}

// TestP114Edges asks of pairs that have an error.
func TestP114Edges(t *testing.T) {
	s := example()
	entries := five()
	entries[0][2], entries[1][2] = 1004, 1005
	other := sheetOf(ledger.Weights, entries)
	one := sheetOf(ledger.Weights, five()[:1])
	lots := sheetOf(ledger.Lots, five())
	long := sheetOf(ledger.Lots, slices.Repeat(five(), 4))
	torn := tornOf(s, [2]int{1, 5})
	bad := putOf(s, at(0, 0, 0), 9)
	none := ledger.Sheet{Kind: ledger.Weights}
	for i, x := range []struct {
		a, b ledger.Sheet
		n    int
		e, f api.Errno
	}{
		{s, s, 0, api.OK, api.OK},
		{s, other, 4, api.OK, api.OK},
		{s, bad, 1, api.OK, api.ErrWrong},
		{none, none, 0, api.OK, api.OK},
		{none, s, 0, api.ErrCount, api.OK},
		{none, ledger.Sheet{Kind: ledger.Trays}, 0, api.ErrClash, api.ErrClash},
		{s, one, 0, api.ErrCount, api.OK},
		{s, lots, 0, api.ErrClash, api.ErrClash},
		{s, long, 0, api.ErrClash, api.ErrClash},
		{lots, long, 0, api.ErrCount, api.ErrCount},
		{s, torn, 0, api.ErrState, api.ErrState},
		{torn, s, 0, api.ErrState, api.ErrState},
		{torn, torn, 0, api.ErrState, api.ErrState},
		{bad, torn, 0, api.ErrState, api.ErrWrong},
		{torn, bad, 0, api.ErrState, api.ErrState},
		{one, torn, 0, api.ErrCount, api.ErrState},
		{lots, torn, 0, api.ErrClash, api.ErrState},
		{bad, ledger.Sheet{Kind: 6}, 0, api.ErrNoSuch, api.ErrWrong},
		{ledger.Sheet{Kind: 6}, bad, 0, api.ErrNoSuch, api.ErrNoSuch},
	} {
		n, e := ledger.Apart(x.a, x.b)
		j, f := ledger.Join(x.a, x.b)
		if n != x.n || e != x.e || f != x.f || f != api.OK && !same(j, ledger.Sheet{}) {
			t.Error(i, n, e, j, f)
		}
	}
}
