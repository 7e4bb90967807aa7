package ledger_test

import (
	"math"
	"slices"
	"testing"

	"laystall/api"
	"laystall/belt"
	"laystall/ledger"
	"laystall/plaint"
	"laystall/scale"
	"laystall/tip"
)

// The lists that are kept as entries, by the fields in the order of the table.
func slipsOf(entries [][]int) []scale.Slip {
	var all []scale.Slip
	for _, x := range entries {
		all = append(all, scale.Slip{Bridge: x[0], Minute: x[1], Reads: x[2]})
	}
	return all
}
func traysOf(entries [][]int) []belt.Tray {
	var all []belt.Tray
	for _, x := range entries {
		all = append(all, belt.Tray{x[0], x[1], x[2], x[3], x[4]})
	}
	return all
}
func layersOf(entries [][]int) []tip.Layer {
	var all []tip.Layer
	for _, x := range entries {
		all = append(all, tip.Layer{Strip: x[0], Day: x[1], Pounds: x[2], Cover: x[3] == 1})
	}
	return all
}
func wordsOf(entries [][]int) []plaint.Word {
	var all []plaint.Word
	for _, x := range entries {
		all = append(all, plaint.Word{Kind: plaint.Kind(x[0]), Place: x[1], Lo: x[2], Hi: x[3]})
	}
	return all
}

// keeper keeps entries of a kind: of is what comes of its list, back tells whether a sheet comes back as this list, or as none, and the error.
type keeper struct {
	kind ledger.Kind
	of   func(entries [][]int) (ledger.Sheet, api.Errno)
	back func(s ledger.Sheet, entries [][]int) (is, none bool, e api.Errno)
}

// comes compares what comes back with a list.
func comes[T comparable](list []T, e api.Errno, want []T) (is, none bool, f api.Errno) {
	return slices.Equal(list, want), list == nil, e
}

// keepers are all of them.
func keepers() []keeper {
	return []keeper{
		{ledger.Weights, func(l [][]int) (ledger.Sheet, api.Errno) { return ledger.OfSlips(slipsOf(l)) },
			func(s ledger.Sheet, l [][]int) (is, none bool, e api.Errno) {
				got, e := ledger.ToSlips(s)
				return comes(got, e, slipsOf(l))
			}},
		{ledger.Trays, func(l [][]int) (ledger.Sheet, api.Errno) { return ledger.OfTrays(traysOf(l)) },
			func(s ledger.Sheet, l [][]int) (is, none bool, e api.Errno) {
				got, e := ledger.ToTrays(s)
				return comes(got, e, traysOf(l))
			}},
		{ledger.Layers, func(l [][]int) (ledger.Sheet, api.Errno) { return ledger.OfLayers(layersOf(l)) },
			func(s ledger.Sheet, l [][]int) (is, none bool, e api.Errno) {
				got, e := ledger.ToLayers(s)
				return comes(got, e, layersOf(l))
			}},
		{ledger.Words, func(l [][]int) (ledger.Sheet, api.Errno) { return ledger.OfWords(wordsOf(l)) },
			func(s ledger.Sheet, l [][]int) (is, none bool, e api.Errno) {
				got, e := ledger.ToWords(s)
				return comes(got, e, wordsOf(l))
			}},
	}
}

// keptEntries returns entries that can be kept: those of layers end with 0 or 1.
func (l *luck) keptEntries(k ledger.Kind, rows int) [][]int {
	all := l.entries(k, rows, l.limit())
	for _, entry := range all {
		if k == ledger.Layers {
			entry[3] = l.below(2)
		}
	}
	return all
}

// TestP116Kept keeps lists of all lengths, and gets them back.
func TestP116Kept(t *testing.T) {
	l := &luck{16}
	for _, x := range keepers() {
		for i := range 260 {
			entries := l.keptEntries(x.kind, i%26)
			s, e := x.of(entries)
			if len(entries) > 24 {
				if !same(s, ledger.Sheet{}) || e != api.ErrCount {
					t.Fatal(x.kind, s, e)
				}
				continue
			}
			if !same(s, sheetOf(x.kind, entries)) || e != api.OK {
				t.Fatal(x.kind, entries, s, e)
			}
			if is, none, e := x.back(s, entries); !is || none != (len(entries) == 0) || e != api.OK {
				t.Fatal(x.kind, entries, is, e)
			}
		}
	}
}

// TestP116Numbers keeps each number at its limits, and beyond.
func TestP116Numbers(t *testing.T) {
	for _, x := range keepers() {
		for column := range columnsOf(x.kind) {
			if x.kind == ledger.Layers && column == 3 {
				continue
			}
			for row := range 2 {
				for _, n := range list(0, 99999, 100000, -1, math.MinInt, math.MaxInt) {
					entries := [][]int{make([]int, columnsOf(x.kind)), make([]int, columnsOf(x.kind))}
					entries[row][column] = n
					want := api.OK
					if n < 0 || n > 99999 {
						want = api.ErrRange
					}
					s, e := x.of(entries)
					if e != want || e != api.OK && !same(s, ledger.Sheet{}) || e == api.OK && !same(s, sheetOf(x.kind, entries)) {
						t.Error(x.kind, column, n, s, e)
					}
					if _, e := x.of(slices.Concat(entries, make24(x.kind))); e != api.ErrCount {
						t.Error(x.kind, column, n, e)
					}
				}
			}
		}
	}
}

// make24 returns 24 entries of a kind.
func make24(k ledger.Kind) [][]int { return slices.Repeat([][]int{make([]int, columnsOf(k))}, 24) }

// TestP116Kinds: what was kept comes back from a sheet of its kind alone, if it is right.
func TestP116Kinds(t *testing.T) {
	l := &luck{17}
	for _, x := range keepers() {
		for _, k := range kinds() {
			s := sheetOf(k, l.keptEntries(k, 6))
			bad := l.damaged(s, 1)
			torn := tornOf(s, l.spot(s))
			want := api.OK
			if k != x.kind {
				want = api.ErrClash
			}
			for _, y := range []struct {
				s ledger.Sheet
				e api.Errno
			}{
				{s, want},
				{ledger.Sheet{Kind: k}, want},
				{bad, api.ErrWrong},
				{torn, api.ErrState},
				{l.torn(bad, 1), api.ErrState},
				{putOf(s, at(0, 0, 0), -1), api.ErrRange},
				{ledger.Sheet{Kind: k, Pages: make([]ledger.Page, 7)}, api.ErrCount},
			} {
				if _, none, e := x.back(y.s, nil); e != y.e || e != api.OK && !none {
					t.Error(x.kind, y.s, e)
				}
			}
		}
		for _, k := range []ledger.Kind{-1, 6} {
			if _, none, e := x.back(ledger.Sheet{Kind: k}, nil); e != api.ErrNoSuch || !none {
				t.Error(x.kind, e)
			}
		}
	}
}

// TestP116Covers asks for layers whose covers are any numbers.
func TestP116Covers(t *testing.T) {
	for _, n := range list(0, 1, 2, 3, 10, 99999) {
		for row := range 6 {
			entries := slices.Repeat([][]int{{3, 60, 900, 1}}, 6)
			entries[row] = list(1, 2, 3, n)
			l, e := ledger.ToLayers(sheetOf(ledger.Layers, entries))
			if n > 1 {
				if l != nil || e != api.ErrRange {
					t.Error(n, row, l, e)
				}
				continue
			}
			if !slices.Equal(l, layersOf(entries)) || e != api.OK {
				t.Error(n, row, l, e)
			}
		}
	}
}

// TestP116Edges asks for some lists, field by field, and for their texts.
func TestP116Edges(t *testing.T) {
	a, e := ledger.OfSlips([]scale.Slip{{Bridge: 1, Minute: 2, Reads: 3}})
	b, f := ledger.OfTrays([]belt.Tray{{1, 2, 3, 4, 5}})
	c, g := ledger.OfLayers([]tip.Layer{{Strip: 1, Day: 2, Pounds: 3}, {Strip: 4, Day: 5, Pounds: 6, Cover: true}})
	d, h := ledger.OfWords([]plaint.Word{{Kind: plaint.Away, Place: 2, Lo: 3, Hi: 4}, {Kind: 77}})
	noError(t, e, f, g, h)
	for i, x := range []struct {
		s    ledger.Sheet
		want string
	}{
		{a, "book weights 1\npage 1\n1 2 3 = 6\nsum 1 2 3 = 6\ncarried 1 2 3 = 6\nend 1\n"},
		{b, "book trays 1\npage 1\n1 2 3 4 5 = 15\nsum 1 2 3 4 5 = 15\ncarried 1 2 3 4 5 = 15\nend 1\n"},
		{c, "book layers 2\npage 1\n1 2 3 0 = 6\n4 5 6 1 = 16\nsum 5 7 9 1 = 22\ncarried 5 7 9 1 = 22\nend 1\n"},
		{d, "book words 2\npage 1\n2 2 3 4 = 11\n77 0 0 0 = 77\nsum 79 2 3 4 = 88\ncarried 79 2 3 4 = 88\nend 1\n"},
	} {
		if text, e := ledger.Print(x.s); text != x.want || e != api.OK {
			t.Error(i, text, e)
		}
	}
	if l, e := ledger.ToWords(d); !slices.Equal(l, []plaint.Word{{Kind: 2, Place: 2, Lo: 3, Hi: 4}, {Kind: 77}}) || e != api.OK {
		t.Error(l, e)
	}
	if _, e := ledger.OfWords([]plaint.Word{{Kind: -1}}); e != api.ErrRange {
		t.Error(e)
	}
}
