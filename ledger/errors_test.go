package ledger_test

import (
	"slices"
	"testing"

	"laystall/api"
	"laystall/belt"
	"laystall/ledger"
	"laystall/plaint"
	"laystall/scale"
	"laystall/tip"
)

// question has all arguments that a function of the package can have.
type question struct {
	kind       ledger.Kind
	entries    [][]int
	a, b       ledger.Sheet
	check      ledger.Check
	m          ledger.Mending
	page, line int
	text       string
	slips      []scale.Slip
	trays      []belt.Tray
	layers     []tip.Layer
	words      []plaint.Word
}

// ordinary is a question that every function answers that does not ask for a sheet of another kind, or for one that is wrong.
func ordinary() question {
	other := five()
	other[0][2] = 1004
	return question{
		kind: ledger.Weights, entries: five(), a: example(), b: sheetOf(ledger.Weights, other), check: ledger.On,
		m: put(0, 1, 2, 1000), page: 0, line: 4, text: exampleText(),
		slips: []scale.Slip{{Bridge: 1, Minute: 2, Reads: 3}, {}}, trays: []belt.Tray{{1, 2, 3, 4, 5}, {}},
		layers: []tip.Layer{{Strip: 1, Day: 2, Pounds: 3}, {Cover: true}}, words: []plaint.Word{{Kind: plaint.Away, Place: 1, Lo: 2, Hi: 3}, {}},
	}
}

// copied returns a question that shares no memory with another one.
func copied(q question) question {
	q.a, q.b = copyOf(q.a), copyOf(q.b)
	q.entries = slices.Clone(q.entries)
	for i := range q.entries {
		q.entries[i] = slices.Clone(q.entries[i])
	}
	q.slips, q.trays, q.layers, q.words = slices.Clone(q.slips), slices.Clone(q.trays), slices.Clone(q.layers), slices.Clone(q.words)
	return q
}

// fault spoils a question, so that it has an error.
type fault struct {
	spoil func(q *question)
	e     api.Errno
}

// sheetA and sheetB are the sheets of a question.
func sheetA(q *question) *ledger.Sheet { return &q.a }
func sheetB(q *question) *ledger.Sheet { return &q.b }

// ofForm puts the faults of the form of a sheet before others.
func ofForm(s func(q *question) *ledger.Sheet, rest ...fault) []fault {
	return append([]fault{
		{func(q *question) { s(q).Kind = 6 }, api.ErrNoSuch},
		{func(q *question) { s(q).Pages = append(s(q).Pages, make([]ledger.Page, 5)...) }, api.ErrCount},
		{func(q *question) { s(q).Pages[0].Rows = s(q).Pages[0].Rows[:3] }, api.ErrCount},
		{func(q *question) { s(q).Pages[1].Rows = append(s(q).Pages[1].Rows, make([]ledger.Line, 4)...) }, api.ErrCount},
		{func(q *question) { s(q).Pages[0].Rows[3] = line(1) }, api.ErrCount},
		{func(q *question) { s(q).Pages[0].Sum = append(s(q).Pages[0].Sum, 0) }, api.ErrCount},
		{func(q *question) { s(q).Pages[1].Carried = line(1, 2, 3) }, api.ErrCount},
		{func(q *question) { s(q).Pages[0].Rows[2][1] = -1 }, api.ErrRange},
		{func(q *question) { s(q).Pages[1].Sum[3] = 100000000 }, api.ErrRange},
	}, rest...)
}

// ofBook puts the faults of a book before others.
func ofBook(s func(q *question) *ledger.Sheet, rest ...fault) []fault {
	return ofForm(s, slices.Concat([]fault{tears(s), {func(q *question) { s(q).Pages[0].Rows[0][0]++ }, api.ErrWrong}}, rest)...)
}

// tears is the fault of a sheet with a torn line.
func tears(s func(q *question) *ledger.Sheet) fault {
	return fault{func(q *question) { s(q).Pages[0].Rows[1] = nil }, api.ErrState}
}

// clash is the fault of a sheet of another kind, with as many columns.
func clash(s func(q *question) *ledger.Sheet) fault {
	others := map[ledger.Kind]ledger.Kind{ledger.Weights: ledger.Lots, ledger.Layers: ledger.Rounds, ledger.Words: ledger.Rounds}
	return fault{func(q *question) { s(q).Kind = others[s(q).Kind] }, api.ErrClash}
}

// call is a function of the package: whether all its results but the error are zero, and the error. first makes an ordinary question one that the function answers.
type call struct {
	name   string
	faults []fault
	ask    func(q question) (bool, api.Errno)
	first  func(q *question)
}

// one makes a call of a function that returns a sheet, several of one that returns a list.
func one(name string, faults []fault, ask func(q question) (ledger.Sheet, api.Errno)) call {
	return call{name: name, faults: faults, ask: func(q question) (bool, api.Errno) {
		s, e := ask(q)
		return s.Kind == 0 && s.Pages == nil, e
	}}
}
func several[T any](name string, faults []fault, ask func(q question) ([]T, api.Errno)) call {
	return call{name: name, faults: faults, ask: func(q question) (bool, api.Errno) {
		l, e := ask(q)
		return l == nil, e
	}}
}

// of makes an ordinary question of a call one about a sheet.
func (c call) of(s ledger.Sheet) call {
	c.first = func(q *question) { q.a = copyOf(s) }
	return c
}

// damaged is the example with a figure that is damaged.
func damaged() ledger.Sheet { return putOf(example(), at(0, 3, 1), 91) }

// sheetCalls are the functions that ask about sheets.
func sheetCalls() []call {
	a, b := sheetA, sheetB
	noLine := fault{func(q *question) { q.m.At.Line, q.line = 6, 6 }, api.ErrNoSuch}
	noPage := fault{func(q *question) { q.m.At.Page, q.page = 2, -1 }, api.ErrNoSuch}
	noColumn := fault{func(q *question) { q.m.At.Column = 4 }, api.ErrNoSuch}
	noFigure := fault{func(q *question) { q.m.Figure = 100000000 }, api.ErrRange}
	twoDamaged := fault{func(q *question) { q.a.Pages[1].Sum[0] = 7 }, api.ErrNone}
	twoTorn := fault{func(q *question) { q.a.Pages[0].Rows[0], q.a.Pages[0].Rows[1] = nil, nil }, api.ErrNone}
	tooMany := fault{func(q *question) { q.b = sheetOf(q.b.Kind, slices.Repeat(five(), 4)) }, api.ErrCount}
	more := fault{func(q *question) { q.b = sheetOf(q.b.Kind, append(five(), list(1, 2, 3))) }, api.ErrCount}
	return []call{
		{name: "Form", faults: ofForm(a), ask: func(q question) (bool, api.Errno) { return true, ledger.Form(q.a) }},
		{name: "Right", faults: ofForm(a), ask: func(q question) (bool, api.Errno) {
			is, e := ledger.Right(q.a)
			return !is, e
		}},
		{name: "Print", faults: ofForm(a), ask: func(q question) (bool, api.Errno) {
			text, e := ledger.Print(q.a)
			return text == "", e
		}},
		several("Wrong", ofForm(a, fault{func(q *question) { q.check = 3 }, api.ErrNoSuch}),
			func(q question) ([]ledger.Place, api.Errno) { return ledger.Wrong(q.a, q.check) }).of(putOf(example(), at(1, 5, 1), 9)),
		several("Entries", ofBook(a), func(q question) ([][]int, api.Errno) { return ledger.Entries(q.a) }),
		several("Totals", ofBook(a), func(q question) ([]int, api.Errno) { return ledger.Totals(q.a) }),
		call{name: "Mend", faults: ofForm(a, tears(a), twoDamaged), ask: func(q question) (bool, api.Errno) {
			m, e := ledger.Mend(q.a)
			return m == ledger.Mending{}, e
		}}.of(damaged()),
		one("Put", ofForm(a, noPage, noLine, noColumn, tears(a), noFigure), func(q question) (ledger.Sheet, api.Errno) { return ledger.Put(q.a, q.m) }),
		one("Tear", ofForm(a, noPage, noLine), func(q question) (ledger.Sheet, api.Errno) { return ledger.Tear(q.a, q.page, q.line) }),
		one("Restore", ofForm(a, twoTorn, fault{func(q *question) { q.a.Pages[1].Rows[0][0]++ }, api.ErrWrong}),
			func(q question) (ledger.Sheet, api.Errno) { return ledger.Restore(q.a) }).of(tornOf(example(), [2]int{0, 4})),
		{name: "Apart", faults: ofForm(a, ofForm(b, clash(b), more, tears(a))...), ask: func(q question) (bool, api.Errno) {
			n, e := ledger.Apart(q.a, q.b)
			return n == 0, e
		}},
		{name: "Apart", faults: ofForm(a, ofForm(b, clash(a), more, tears(b))...), ask: func(q question) (bool, api.Errno) {
			n, e := ledger.Apart(q.a, q.b)
			return n == 0, e
		}},
		one("Join", ofBook(a, ofBook(b, clash(b), tooMany)...), func(q question) (ledger.Sheet, api.Errno) { return ledger.Join(q.a, q.b) }),
	}
}

// keptCalls are the functions that make sheets of lists, and lists of sheets.
func keptCalls() []call {
	a := sheetA
	tooMany := fault{func(q *question) {
		q.slips, q.trays = append(q.slips, make([]scale.Slip, 23)...), append(q.trays, make([]belt.Tray, 23)...)
		q.layers, q.words = append(q.layers, make([]tip.Layer, 23)...), append(q.words, make([]plaint.Word, 23)...)
	}, api.ErrCount}
	tooGreat := fault{func(q *question) {
		q.slips[1].Minute, q.trays[1][4], q.layers[1].Pounds, q.words[1].Lo = 100000, 100000, 100000, 100000
	}, api.ErrRange}
	tooLittle := fault{func(q *question) {
		q.slips[0].Bridge, q.trays[0][0], q.layers[0].Strip, q.words[0].Kind = -1, -1, -1, -1
	}, api.ErrRange}
	of := []fault{tooMany, tooGreat, tooLittle}
	noCover := fault{func(q *question) { q.a = sheetOf(q.a.Kind, slices.Repeat([][]int{{1, 2, 3, 2}}, 5)) }, api.ErrRange}
	slips, trays, layers, words := five(), slices.Repeat([][]int{{1, 2, 3, 4, 5}}, 5), slices.Repeat([][]int{{1, 2, 3, 1}}, 5), slices.Repeat([][]int{{1, 2, 3, 4}}, 5)
	return []call{
		{name: "Columns", faults: []fault{{func(q *question) { q.kind = -1 }, api.ErrNoSuch}}, ask: func(q question) (bool, api.Errno) {
			l, e := ledger.Columns(q.kind)
			return l == nil, e
		}},
		one("Make", []fault{
			{func(q *question) { q.kind = 6 }, api.ErrNoSuch},
			{func(q *question) { q.entries = append(q.entries, make([][]int, 20)...) }, api.ErrCount},
			{func(q *question) { q.entries[4] = list(1, 2, 3, 4) }, api.ErrCount},
			{func(q *question) { q.entries[0][0] = -1 }, api.ErrRange},
			{func(q *question) { q.entries[1][1] = 100000 }, api.ErrRange},
		}, func(q question) (ledger.Sheet, api.Errno) { return ledger.Make(q.kind, q.entries) }),
		one("OfSlips", of, func(q question) (ledger.Sheet, api.Errno) { return ledger.OfSlips(q.slips) }),
		one("OfTrays", of, func(q question) (ledger.Sheet, api.Errno) { return ledger.OfTrays(q.trays) }),
		one("OfLayers", of, func(q question) (ledger.Sheet, api.Errno) { return ledger.OfLayers(q.layers) }),
		one("OfWords", of, func(q question) (ledger.Sheet, api.Errno) { return ledger.OfWords(q.words) }),
		several("ToSlips", ofBook(a, clash(a)), func(q question) ([]scale.Slip, api.Errno) { return ledger.ToSlips(q.a) }).of(sheetOf(ledger.Weights, slips)),
		several("ToTrays", ofBook(a), func(q question) ([]belt.Tray, api.Errno) { return ledger.ToTrays(q.a) }).of(sheetOf(ledger.Trays, trays)),
		several("ToLayers", ofBook(a, clash(a), noCover), func(q question) ([]tip.Layer, api.Errno) { return ledger.ToLayers(q.a) }).of(sheetOf(ledger.Layers, layers)),
		several("ToWords", ofBook(a, clash(a)), func(q question) ([]plaint.Word, api.Errno) { return ledger.ToWords(q.a) }).of(sheetOf(ledger.Words, words)),
	}
}

// TestErrorsInOrder spoils each question by each fault alone, by it and each one that is named behind it, and by it and all of these: the first one is told, with nothing else.
func TestErrorsInOrder(t *testing.T) {
	for _, c := range append(sheetCalls(), keptCalls()...) {
		begin := func() question {
			q := ordinary()
			if c.first != nil {
				c.first(&q)
			}
			return copied(q)
		}
		if zero, e := c.ask(begin()); e != api.OK || zero && c.name != "Form" {
			t.Error(c.name, "of an ordinary question:", zero, e)
		}
		for i, first := range c.faults {
			spoiled := func(faults ...fault) {
				q := begin()
				for _, f := range faults {
					f.spoil(&q)
				}
				if zero, e := c.ask(q); e != first.e || !zero {
					t.Error(c.name, "fault", i, "of", len(faults), "error", e, "zero", zero)
				}
			}
			spoiled(first)
			for _, other := range c.faults[i+1:] {
				spoiled(other, first)
			}
		}
	}
}

// TestListsAreAskedOneErrorAfterTheOther: of several elements with errors the error that is named first decides, not the first element.
func TestListsAreAskedOneErrorAfterTheOther(t *testing.T) {
	if _, e := ledger.Make(ledger.Lots, [][]int{{-1, 0, 0}, {0}}); e != api.ErrCount {
		t.Error("entries:", e)
	}
	s := example()
	s.Pages[0].Rows[0][0], s.Pages[1].Carried = -1, line(1)
	if e := ledger.Form(s); e != api.ErrCount {
		t.Error("lines:", e)
	}
	s = example()
	s.Pages[0].Rows[0] = nil
	s.Pages[1].Carried[0] = -1
	if _, e := ledger.Entries(s); e != api.ErrRange {
		t.Error("lines:", e)
	}
	if _, e := ledger.OfSlips(append([]scale.Slip{{Bridge: -1}}, make([]scale.Slip, 24)...)); e != api.ErrCount {
		t.Error("slips:", e)
	}
	entries := [][]int{{0, 0, 5, 2}, {0, 0, 5, 1}}
	if _, e := ledger.ToLayers(putOf(sheetOf(ledger.Layers, entries), at(0, 1, 3), 0)); e != api.ErrWrong {
		t.Error("layers:", e)
	}
}
