package ledger_test

import (
	"math"
	"reflect"
	"slices"
	"testing"

	"laystall/api"
	"laystall/belt"
	"laystall/ledger"
	"laystall/plaint"
	"laystall/scale"
	"laystall/tip"
)

// TestP117Texts: a text that is printed is parsed as the same sheet, and a text that is parsed is the text of that sheet.
func TestP117Texts(t *testing.T) {
	l := &luck{18}
	parses := 0
	for range 4000 {
		s := l.any()
		text, e := ledger.Print(s)
		noError(t, e)
		if p := parse(text); !p.is(parsed{s: s}) {
			t.Fatal(s, text, p)
		}
		for range 3 {
			at := l.below(len(text))
			text = text[:at] + string("0123456789 =?\n"[l.below(14)]) + text[at+l.below(2):]
			if p := parse(text); p.e == api.OK {
				back, e := ledger.Print(p.s)
				if back != text || e != api.OK {
					t.Fatalf("%q %q %v", text, back, e)
				}
				parses++
			}
		}
	}
	if parses < 2000 {
		t.Error("damaged texts that are parsed:", parses)
	}
}

// TestP117Mended: a right sheet in which one figure is damaged is mended as it was.
func TestP117Mended(t *testing.T) {
	l := &luck{19}
	for range 1500 {
		s := l.sheet()
		bad := l.damaged(s, 1)
		is, e := ledger.Right(bad)
		m, f := ledger.Mend(bad)
		noError(t, e, f)
		back, e := ledger.Put(bad, m)
		n, f := ledger.Apart(s, back)
		noError(t, e, f)
		if is || n != 0 || !same(s, back) {
			t.Fatal(s, bad, m, back)
		}
	}
}

// TestP117Never: with two or three damaged figures a sheet is never right. All figures of a small sheet get all small values, and those of others the ones with which sums agree again.
func TestP117Never(t *testing.T) {
	s := sheetOf(ledger.Lots, [][]int{{1, 0, 1}, {0, 1, 1}})
	all := places(s)
	for i, p := range all {
		for j, q := range all[:i] {
			for _, r := range all[:j+1] {
				for n := range 27 {
					bad := putOf(putOf(putOf(s, p, n%3), q, n/3%3), r, n/9)
					if is, e := ledger.Right(bad); is != same(bad, s) || e != api.OK {
						t.Fatal(bad, is, e)
					}
				}
			}
		}
	}
	l := &luck{20}
	agree := 0
	for range 300 {
		s := l.sheet()
		p := l.place(s)
		bad := putOf(s, p, l.other(*figureAt(s, p)))
		for range 2 {
			wrong := slices.DeleteFunc(sumsOf(bad), func(sum aSum) bool { return off(bad, sum) == 0 })
			sum := wrong[l.below(len(wrong))]
			q := sum.parts[l.below(len(sum.parts))]
			figure := *figureAt(bad, q.Place) - q.sign*off(bad, sum)
			if q.Place == p || figure < 0 || figure > 99999999 {
				continue
			}
			bad = putOf(bad, q.Place, figure)
			if is, e := ledger.Right(bad); is || e != api.OK {
				t.Fatal(s, bad, is, e)
			}
			agree++
		}
	}
	if agree < 200 {
		t.Error("figures with which a sum agrees again:", agree)
	}
}

// TestP117Torn: torn lines are told if at most one is torn on each page.
func TestP117Torn(t *testing.T) {
	l := &luck{21}
	for range 1500 {
		s := l.sheet()
		torn := copyOf(s)
		for page, p := range s.Pages {
			if number := list(0, 1, 2, 3, 4, 5, -1)[l.below(7)]; number >= 4 || 0 <= number && number < len(p.Rows) {
				torn = tornOf(torn, [2]int{page, number})
			}
		}
		if got, e := ledger.Restore(torn); !same(got, s) || e != api.OK {
			t.Fatal(s, torn, got, e)
		}
	}
	for _, number := range list(0, 4, 5) {
		s := sheetOf(ledger.Trays, l.entries(ledger.Trays, 24, 99999))
		torn := copyOf(s)
		for page := range s.Pages {
			torn = tornOf(torn, [2]int{page, number})
		}
		if got, e := ledger.Restore(torn); !same(got, s) || e != api.OK {
			t.Error(s, number, got, e)
		}
	}
}

// TestP012: what is kept comes back as it was, from its text, of which a figure was damaged or a line of each page was torn.
func TestP012(t *testing.T) {
	l := &luck{22}
	for _, x := range keepers() {
		for range 200 {
			entries := l.keptEntries(x.kind, l.from(1, 24))
			s, e := x.of(entries)
			noError(t, e)
			bad, e := ledger.Print(l.damaged(s, 1))
			noError(t, e)
			read := parse(bad)
			m, e := ledger.Mend(read.s)
			noError(t, read.e, e)
			mended, e := ledger.Put(read.s, m)
			noError(t, e)
			if is, _, e := x.back(mended, entries); !is || e != api.OK {
				t.Fatal(entries, bad, m, e)
			}
			torn := s
			for page := range s.Pages {
				torn, e = ledger.Tear(torn, page, list(0, 4, 5)[l.below(3)])
				noError(t, e)
			}
			text, e := ledger.Print(torn)
			noError(t, e)
			told, e := ledger.Restore(parse(text).s)
			noError(t, e)
			if is, _, e := x.back(told, entries); !is || e != api.OK {
				t.Fatal(entries, text, e)
			}
		}
	}
}

// strange returns a number that is an ordinary one, one at a limit, or any.
func (l *luck) strange() int {
	edges := [...]int{math.MinInt, math.MinInt + 1, -2, -1, 0, 1, 2, 3, 4, 5, 6, 7, 24, 25, 99999, 100000, 99999999, 100000000, math.MaxInt - 1, math.MaxInt}
	if l.below(3) > 0 {
		return l.below(6)
	}
	return edges[l.below(len(edges))]
}

// strangeSheet returns one that can be wrong in every place.
func (l *luck) strangeSheet() ledger.Sheet {
	s := l.any()
	switch l.below(12) {
	case 0:
		s.Kind = ledger.Kind(l.strange())
	case 1:
		s.Pages = slices.Repeat(s.Pages, l.below(4))
	case 2:
		s.Pages = append(s.Pages, ledger.Page{Rows: make([]ledger.Line, l.below(6))})
	case 3:
		s.Pages = make([]ledger.Page, l.below(9))
	}
	for i := range s.Pages {
		p := &s.Pages[i]
		switch l.below(90) {
		case 0:
			p.Rows = p.Rows[:l.below(len(p.Rows)+1)]
		case 1:
			p.Sum = make(ledger.Line, l.below(9))
		case 2:
			p.Carried = append(p.Carried, 0)
		case 3:
			p.Rows = append(p.Rows, p.Sum)
		}
	}
	if all := places(s); l.below(8) == 0 && len(all) > 0 {
		*figureAt(s, all[l.below(len(all))]) = l.strange()
	}
	return s
}

// strangeEntries returns some that can be wrong in every place.
func (l *luck) strangeEntries(k ledger.Kind) [][]int {
	if k < 0 || k > 5 || l.below(20) == 0 {
		k = l.kind()
	}
	all := l.entries(k, l.below(26), 99999)
	if len(all) > 0 && l.below(4) == 0 {
		entry := all[l.below(len(all))]
		entry[l.below(len(entry))] = l.strange()
	}
	return all
}

// strangeQuestion returns a question that can be wrong in every place.
func (l *luck) strangeQuestion() question {
	q := question{
		kind: ledger.Kind(l.strange()), check: ledger.Check(l.strange()), a: l.strangeSheet(), b: l.strangeSheet(),
		m: put(l.below(4), l.strange(), l.strange(), l.strange()), page: l.below(4), line: l.strange(),
	}
	q.entries = l.strangeEntries(q.kind)
	if l.below(3) == 0 {
		q.b = l.damaged(q.a, l.below(2))
	}
	q.text, _ = ledger.Print(q.b)
	if l.below(2) == 0 && q.text != "" {
		at := l.below(len(q.text))
		q.text = q.text[:at] + string(rune(l.below(300))) + q.text[at+1:]
	}
	for range l.below(27) {
		q.slips = append(q.slips, scale.Slip{Bridge: l.below(9), Minute: l.below(999), Reads: l.below(99999)})
		q.trays = append(q.trays, belt.Tray{l.below(9), l.below(9), 0, 0, l.below(9)})
		q.layers = append(q.layers, tip.Layer{Strip: l.below(9), Day: l.below(9), Pounds: l.below(9), Cover: l.below(2) == 0})
		q.words = append(q.words, plaint.Word{Kind: plaint.Kind(l.below(9)), Place: l.below(9), Lo: l.below(9), Hi: l.below(9)})
	}
	if i := l.below(60); i < len(q.slips) {
		q.slips[i].Reads, q.trays[i][2], q.layers[i].Day, q.words[i].Kind = l.strange(), l.strange(), l.strange(), plaint.Kind(l.strange())
	}
	return q
}

// answers returns what all functions say to a question.
func answers(q question) []any {
	var list []any
	say := func(e api.Errno, results ...any) { list = append(list, e, results) }
	sheet := func(s ledger.Sheet, e api.Errno) { say(e, s) }
	columns, e := ledger.Columns(q.kind)
	say(e, columns)
	say(ledger.Form(q.a))
	is, e := ledger.Right(q.a)
	say(e, is)
	wrong, e := ledger.Wrong(q.a, q.check)
	say(e, wrong)
	entries, e := ledger.Entries(q.a)
	say(e, entries)
	totals, e := ledger.Totals(q.a)
	say(e, totals)
	m, e := ledger.Mend(q.a)
	say(e, m)
	n, e := ledger.Apart(q.a, q.b)
	say(e, n)
	text, e := ledger.Print(q.a)
	say(e, text)
	sheet(ledger.Make(q.kind, q.entries))
	sheet(ledger.Put(q.a, q.m))
	sheet(ledger.Tear(q.a, q.page, q.line))
	sheet(ledger.Restore(q.a))
	sheet(ledger.Join(q.a, q.b))
	sheet(ledger.OfSlips(q.slips))
	sheet(ledger.OfTrays(q.trays))
	sheet(ledger.OfLayers(q.layers))
	sheet(ledger.OfWords(q.words))
	slips, e := ledger.ToSlips(q.a)
	say(e, slips)
	trays, e := ledger.ToTrays(q.a)
	say(e, trays)
	layers, e := ledger.ToLayers(q.a)
	say(e, layers)
	words, e := ledger.ToWords(q.a)
	say(e, words)
	// The line and the word of Parse are told with an error.
	s, line, word, e := ledger.Parse(q.text)
	say(e, s)
	say(api.OK, line, word)
	return list
}

// TestP01: no question makes a function panic, change its arguments, or answer otherwise when it is asked again; with an error, there is nothing else.
func TestP01(t *testing.T) {
	l := &luck{23}
	var fine [24]int
	for range 4000 {
		q := l.strangeQuestion()
		before := copied(q)
		first := answers(q)
		if !reflect.DeepEqual(q, before) {
			t.Fatal("changed:", before, q)
		}
		if again := answers(q); !reflect.DeepEqual(again, first) {
			t.Fatal(q, first, again)
		}
		for i := range fine {
			e, results := first[2*i], first[2*i+1].([]any)
			fine[i] += count(e == api.OK)
			for _, x := range results {
				if e != api.OK && !reflect.ValueOf(x).IsZero() {
					t.Fatal(q, i, e, results)
				}
			}
		}
	}
	if slices.Min(fine[:]) < 60 || slices.Max(fine[:23]) > 3950 {
		t.Error("questions without an error, for each function:", fine)
	}
}

// TestR3NilAndEmpty: a list that is nil is the same as an empty one.
func TestR3NilAndEmpty(t *testing.T) {
	bare, empty := question{}, question{
		a: ledger.Sheet{Pages: []ledger.Page{}}, b: ledger.Sheet{Pages: []ledger.Page{}}, entries: [][]int{},
		slips: []scale.Slip{}, trays: []belt.Tray{}, layers: []tip.Layer{}, words: []plaint.Word{},
	}
	if first, then := answers(bare), answers(empty); !reflect.DeepEqual(first, then) {
		t.Error(first, then)
	}
	l := &luck{24}
	for range 100 {
		s := l.torn(l.sheet(), 3)
		other := copyOf(s)
		for _, spot := range spots(s) {
			if l := lineAt(other, spot[0], spot[1]); len(*l) == 0 {
				*l = ledger.Line{}
			}
		}
		text, e := ledger.Print(s)
		also, f := ledger.Print(other)
		if text != also || e != f {
			t.Fatal(s, text, also, e, f)
		}
		for c := range ledger.Check(3) {
			wrong, e := ledger.Wrong(s, c)
			also, f := ledger.Wrong(other, c)
			if !slices.Equal(wrong, also) || e != f {
				t.Fatal(s, c, wrong, also, e, f)
			}
		}
		told, e := ledger.Restore(s)
		again, f := ledger.Restore(other)
		_, g := ledger.Entries(other)
		_, h := ledger.Mend(other)
		if !same(told, again) || e != f || g != api.ErrState || h != api.ErrState {
			t.Fatal(s, told, again, e, f, g, h)
		}
	}
}

// spoil changes all lists among results, and what is behind them.
func spoil(x reflect.Value) {
	switch x.Kind() {
	case reflect.Slice:
		whole := x.Slice(0, x.Cap())
		for i := range whole.Len() {
			spoil(whole.Index(i))
		}
	case reflect.Struct:
		for i := range x.NumField() {
			spoil(x.Field(i))
		}
	case reflect.Int:
		if x.CanSet() {
			x.SetInt(77)
		}
	case reflect.Interface:
		spoil(x.Elem())
	}
}

// TestR4Memory: who changes a result changes nothing of what was asked, of what is answered next, or of another part of the result.
func TestR4Memory(t *testing.T) {
	l := &luck{25}
	for i := range 100 {
		q := ordinary()
		if i > 0 {
			q.a = l.torn(l.damaged(l.sheet(), i%2), i/2%2)
			q.b = l.damaged(q.a, 1)
		}
		before := copied(q)
		said := answers(q)
		spoil(reflect.ValueOf(answers(q)))
		if again := answers(q); !reflect.DeepEqual(again, said) || !reflect.DeepEqual(q, before) {
			t.Error(again, said)
		}
	}
	s := ledger.Sheet{Kind: ledger.Lots, Pages: []ledger.Page{{Rows: []ledger.Line{line(1, 2, 3, 6)}, Sum: line(1, 2, 3, 6), Carried: line(1, 2, 3, 6)}}}
	made, _ := ledger.Make(ledger.Lots, [][]int{{1, 2, 3}})
	mended, _ := ledger.Put(s, put(0, 0, 0, 1))
	told, _ := ledger.Restore(tornOf(s, [2]int{0, 4}))
	for i, x := range []ledger.Sheet{made, mended, told} {
		*figureAt(x, at(0, 4, 0)) = 9
		if !same(x, putOf(s, at(0, 4, 0), 9)) {
			t.Error(i, x)
		}
	}
}

// TestR4Room: no function writes behind the end of a list.
func TestR4Room(t *testing.T) {
	l := &luck{26}
	for range 50 {
		q := ordinary()
		q.a = l.torn(l.damaged(l.sheet(), 1), l.below(2))
		// All lines stand in one list, one behind the other, with room behind the last one.
		all := make([]int, 0, 400)
		for _, spot := range spots(q.a) {
			l := lineAt(q.a, spot[0], spot[1])
			from := len(all)
			all = append(all, *l...)
			*l = all[from:len(all)]
		}
		q.b, q.entries = q.a, nil
		for _, p := range q.a.Pages {
			for _, row := range p.Rows {
				q.entries = append(q.entries, row[:max(len(row)-1, 0)])
			}
		}
		q.kind = q.a.Kind
		before := slices.Clone(all[:cap(all)])
		answers(q)
		if !slices.Equal(all[:cap(all)], before) {
			t.Fatal(q.a, before, all)
		}
	}
}
