package ledger_test

import (
	"regexp"
	"slices"
	"strconv"
	"strings"
	"testing"

	"laystall/api"
	"laystall/ledger"
)

// parsed is what comes of a text.
type parsed struct {
	s          ledger.Sheet
	line, word int
	e          api.Errno
}

// parse returns what comes of a text.
func parse(text string) parsed {
	s, line, word, e := ledger.Parse(text)
	return parsed{s, line, word, e}
}

// is reports whether the same comes of two texts.
func (p parsed) is(q parsed) bool {
	return same(p.s, q.s) && p.line == q.line && p.word == q.word && p.e == q.e
}

// numbers are words like this.
var numbers = regexp.MustCompile(`\A(0|[1-9][0-9]{0,7})\z`)

// reader goes through a text byte by byte, and panics with what comes of it at the first error.
type reader struct {
	left       string
	line, word int
}

// fail ends the reading.
func (r *reader) fail(e api.Errno) { panic(parsed{line: r.line, word: r.word, e: e}) }

// next returns the next word of the line.
func (r *reader) next() string {
	r.word++
	if r.word > 1 {
		if r.left == "" || r.left[0] != ' ' {
			r.fail(api.ErrForm)
		}
		r.left = r.left[1:]
	} else if r.left == "" {
		r.fail(api.ErrForm)
	}
	n := strings.IndexAny(r.left, " \n")
	if n < 0 {
		n = len(r.left)
	}
	word := r.left[:n]
	r.left = r.left[n:]
	return word
}

// end goes on to the next line.
func (r *reader) end() {
	r.word++
	if r.left == "" || r.left[0] != '\n' {
		r.fail(api.ErrForm)
	}
	r.left = r.left[1:]
	r.line, r.word = r.line+1, 0
}

// is asks for a word.
func (r *reader) is(word string) {
	if r.next() != word {
		r.fail(api.ErrForm)
	}
}

// number returns the number that comes next.
func (r *reader) number() int { return r.numberOf(r.next()) }
func (r *reader) numberOf(word string) int {
	if !numbers.MatchString(word) {
		r.fail(api.ErrForm)
	}
	n, _ := strconv.Atoi(word)
	return n
}

// count asks for the number of a page, or of all pages.
func (r *reader) count(n int) {
	if r.number() != n {
		r.fail(api.ErrOrder)
	}
	r.end()
}

// figures returns the line that comes next, with a word before its figures if there is one.
func (r *reader) figures(head string, columns int) ledger.Line {
	first := r.next()
	if first == "?" {
		r.end()
		return nil
	}
	if head != "" {
		if first != head {
			r.fail(api.ErrForm)
		}
		first = r.next()
	}
	l := line(r.numberOf(first))
	for len(l) < columns {
		l = append(l, r.number())
	}
	r.is("=")
	l = append(l, r.number())
	r.end()
	return l
}

// parsedOf returns what must come of a text.
func parsedOf(text string) (p parsed) {
	r := &reader{left: text, line: 1}
	defer func() {
		if q, failed := recover().(parsed); failed {
			p = q
		}
	}()
	r.is("book")
	k := slices.Index(words(), r.next())
	if k < 0 {
		r.fail(api.ErrWord)
	}
	s := ledger.Sheet{Kind: ledger.Kind(k)}
	rows := r.number()
	if rows > 24 {
		r.fail(api.ErrCount)
	}
	r.end()
	for rows > 0 {
		r.is("page")
		r.count(len(s.Pages) + 1)
		var p ledger.Page
		for range min(rows, 4) {
			p.Rows = append(p.Rows, r.figures("", columnsOf(s.Kind)))
		}
		p.Sum = r.figures("sum", columnsOf(s.Kind))
		p.Carried = r.figures("carried", columnsOf(s.Kind))
		s.Pages = append(s.Pages, p)
		rows -= len(p.Rows)
	}
	r.is("end")
	r.count(len(s.Pages))
	if r.left != "" {
		r.word = 1
		r.fail(api.ErrForm)
	}
	return parsed{s: s}
}

// any returns any sheet: also one that is damaged, or torn.
func (l *luck) any() ledger.Sheet {
	s := l.sheet()
	if l.below(9) == 0 {
		s.Pages = nil
		return s
	}
	return l.torn(l.damaged(s, l.below(4)), l.below(3))
}

// TestP115Print prints sheets of all kinds, and parses what is printed.
func TestP115Print(t *testing.T) {
	l := &luck{14}
	for range 1500 {
		s := l.any()
		text, e := ledger.Print(s)
		if text != textOf(s) || e != api.OK {
			t.Fatal(s, text, e)
		}
		if p := parse(text); !p.is(parsed{s: s}) {
			t.Fatal(s, text, p)
		}
	}
	if text, e := ledger.Print(example()); text != exampleText() || e != api.OK {
		t.Error(text, e)
	}
}

// reads holds what comes of a text against what must come of it, and counts it by its error.
func reads(t *testing.T, text string, all *[13]int) {
	t.Helper()
	p := parse(text)
	if want := parsedOf(text); !p.is(want) {
		t.Fatalf("%q %v %v", text, p, want)
	}
	if p.e == api.OK {
		if back, e := ledger.Print(p.s); back != text || e != api.OK {
			t.Fatalf("%q %q %v", text, back, e)
		}
	}
	all[p.e]++
}

// texts are some that are parsed without an error.
func texts() []string {
	return []string{
		exampleText(),
		strings.Replace(exampleText(), "1 60 2000 = 2061", "?", 1),
		strings.Replace(exampleText(), "sum 1 95 30 = 126\ncarried 2 305 5036 = 5343", "?\n?", 1),
		"book lots 0\nend 0\n",
		"book trays 1\npage 1\n0 12345678 2 3 99999 = 0\nsum 99999999 0 0 0 0 = 7\n?\nend 1\n",
		textOf(sheetOf(ledger.Rounds, (&luck{15}).entries(ledger.Rounds, 24, 99999))),
	}
}

// oddWords are words that can be somewhere, or nowhere, in a text.
func oddWords() []string {
	return []string{
		"", "0", "1", "2", "3", "4", "5", "6", "7", "12", "23", "24", "25", "00", "01", "05", "99999", "100000", "99999999", "100000000", "123456789", "-1", "+1", "1.0", "0x1", "1_0", "1e1",
		"?", "??", "=", "==", "book", "Book", "page", "sum", "carried", "end", "rounds", "weights", "weight", "Weights", "trays", "lots", "layers", "words", "x", "\t", "1\t", "\r", "5\r", "\x00", "\xff", "é", "１", "٣", "1 ", " 1", " ", "\n", "1\n", "\n1",
	}
}

// TestP115Words puts odd words instead of each word of some texts, before it and behind it, and leaves it out.
func TestP115Words(t *testing.T) {
	var all [13]int
	for i, text := range texts() {
		lines := strings.SplitAfter(text, "\n")
		for at, l := range lines {
			before, behind := strings.Join(lines[:at], ""), strings.Join(lines[at+1:], "")
			parts := strings.Split(strings.TrimSuffix(l, "\n"), " ")
			if i == 5 && at%9 > 1 {
				continue
			}
			for n := range parts {
				with := func(words ...string) {
					other := strings.Join(slices.Concat(parts[:n], words, parts[n+1:]), " ")
					reads(t, before+other+"\n"+behind, &all)
				}
				with()
				for _, word := range oddWords() {
					with(word)
					with(word, parts[n])
					with(parts[n], word)
				}
			}
		}
	}
	if all[api.OK] < 200 || all[api.ErrForm] < 5000 || all[api.ErrWord] < 200 || all[api.ErrCount] < 20 || all[api.ErrOrder] < 200 {
		t.Error("errors:", all)
	}
}

// TestP115Lines leaves out each line of some texts, has each line twice, or an odd one before it.
func TestP115Lines(t *testing.T) {
	var all [13]int
	for _, text := range texts() {
		lines := strings.SplitAfter(text, "\n")
		for at := range lines {
			before, behind := strings.Join(lines[:at], ""), strings.Join(lines[at:], "")
			for _, odd := range slices.Concat(lines, oddWords()) {
				reads(t, before+odd+behind, &all)
				reads(t, before+odd+"\n"+behind, &all)
				if at < len(lines)-1 {
					reads(t, before+odd+strings.Join(lines[at+1:], ""), &all)
				}
			}
		}
	}
	if all[api.OK] < 100 || all[api.ErrForm] < 1000 {
		t.Error("errors:", all)
	}
}

// TestP115Bytes ends some texts at each byte, and puts odd bytes at each place of them.
func TestP115Bytes(t *testing.T) {
	var all [13]int
	for _, text := range texts()[:5] {
		for at := range text {
			reads(t, text[:at], &all)
			reads(t, text[:at]+text[at+1:], &all)
			reads(t, text[at:], &all)
			for _, odd := range "\n 0159?=abcdekps\r\t\x00é" {
				reads(t, text[:at]+string(odd)+text[at:], &all)
				reads(t, text[:at]+string(odd)+text[at+1:], &all)
			}
			for odd := at % 7; odd < 256; odd += 7 {
				reads(t, text[:at]+string([]byte{byte(odd)})+text[at+1:], &all)
			}
		}
	}
	if all[api.OK] < 500 || all[api.ErrForm] < 5000 || all[api.ErrWord] < 200 || all[api.ErrCount] < 20 || all[api.ErrOrder] < 100 {
		t.Error("errors:", all)
	}
}

// TestP115Edges asks for texts that have an error, word by word.
func TestP115Edges(t *testing.T) {
	text := exampleText()
	for i, x := range []struct {
		old, new   string
		line, word int
		e          api.Errno
	}{
		{text, "", 1, 1, api.ErrForm},
		{text, "\n", 1, 1, api.ErrForm},
		{text, " \n", 1, 1, api.ErrForm},
		{text, "book", 1, 2, api.ErrForm},
		{text, "book\n", 1, 2, api.ErrForm},
		{text, "book \n", 1, 2, api.ErrWord},
		{text, "book weights", 1, 3, api.ErrForm},
		{text, "book weights\n", 1, 3, api.ErrForm},
		{text, "book weights 5", 1, 4, api.ErrForm},
		{text, "book weights 5 ", 1, 4, api.ErrForm},
		{text, "book weights 5 x y\n", 1, 4, api.ErrForm},
		{text, "book weights 25", 1, 3, api.ErrCount},
		{text, "book weight 25", 1, 2, api.ErrWord},
		{text, "bok weight 25", 1, 1, api.ErrForm},
		{text, "book weights 5\n", 2, 1, api.ErrForm},
		{text, "book weights 5\n\n", 2, 1, api.ErrForm},
		{text, "book weights 0\n", 2, 1, api.ErrForm},
		{text, "book weights 0\nend", 2, 2, api.ErrForm},
		{text, "book weights 0\nend 0", 2, 3, api.ErrForm},
		{text, "book weights 0\nend 1", 2, 2, api.ErrOrder},
		{text, "book weights 0\nend 0 0", 2, 3, api.ErrForm},
		{text, "book weights 0\nend 0\n", 0, 0, api.OK},
		{text, "book weights 0\nend 0\n ", 3, 1, api.ErrForm},
		{"book weights", "book  weights", 1, 2, api.ErrWord},
		{"weights 5", "weights  5", 1, 3, api.ErrForm},
		{"weights 5", "weights 24", 11, 1, api.ErrForm},
		{"weights 5", "weights 25", 1, 3, api.ErrCount},
		{"weights 5", "weights 99999999", 1, 3, api.ErrCount},
		{"weights 5", "weights 100000000", 1, 3, api.ErrForm},
		{"weights 5", "weights 05", 1, 3, api.ErrForm},
		{"weights 5", "weights -5", 1, 3, api.ErrForm},
		{"weights 5", "lots 5", 0, 0, api.OK},
		{"weights 5", "rounds 5", 3, 4, api.ErrForm},
		{"page 1", "page 01", 2, 2, api.ErrForm},
		{"page 1", "page 0", 2, 2, api.ErrOrder},
		{"page 1", "page 2", 2, 2, api.ErrOrder},
		{"page 1", "page 1 1", 2, 3, api.ErrForm},
		{"page 1", "page 2 1", 2, 2, api.ErrOrder},
		{"page 1", "?", 2, 1, api.ErrForm},
		{"page 2", "page 1", 9, 2, api.ErrOrder},
		{"page 2", "page 99999999", 9, 2, api.ErrOrder},
		{"page 2", "page 999999999", 9, 2, api.ErrForm},
		{"0 10 1003 = 1013", "0 10 1003 - 1013", 3, 4, api.ErrForm},
		{"0 10 1003 = 1013", "0 10 1003 = 0", 0, 0, api.OK},
		{"0 10 1003 = 1013", "0 10 99999999 = 1013", 0, 0, api.OK},
		{"0 10 1003 = 1013", "0 10 100000000 = 1013", 3, 3, api.ErrForm},
		{"0 10 1003 = 1013", "0 10 1003 = 1013 ", 3, 6, api.ErrForm},
		{"0 10 1003 = 1013", "0 10 1003 =", 3, 5, api.ErrForm},
		{"0 10 1003 = 1013", "0 10 1003", 3, 4, api.ErrForm},
		{"0 10 1003 = 1013", "sum 0 10 1003 = 1013", 3, 1, api.ErrForm},
		{"0 10 1003 = 1013", "0 ? 1003 = 1013", 3, 2, api.ErrForm},
		{"0 10 1003 = 1013", "?", 0, 0, api.OK},
		{"0 10 1003 = 1013", "? ", 3, 2, api.ErrForm},
		{"0 10 1003 = 1013", "? 10 1003 = 1013", 3, 2, api.ErrForm},
		{"sum 1 210 5006 = 5217", "?", 0, 0, api.OK},
		{"sum 1 210 5006 = 5217", "sum ?", 7, 2, api.ErrForm},
		{"sum 1 210 5006 = 5217", "1 210 5006 = 5217", 7, 1, api.ErrForm},
		{"sum 1 210 5006 = 5217", "sum 1 210 = 5217", 7, 4, api.ErrForm},
		{"sum 1 210 5006 = 5217\n", "", 7, 1, api.ErrForm},
		{"carried 1 210 5006 = 5217", "carried", 8, 2, api.ErrForm},
		{"carried 1 210 5006 = 5217", "sum 1 210 5006 = 5217", 8, 1, api.ErrForm},
		{"end 2\n", "end 2", 13, 3, api.ErrForm},
		{"end 2\n", "end 1", 13, 2, api.ErrOrder},
		{"end 2\n", "end 3\n", 13, 2, api.ErrOrder},
		{"end 2\n", "end", 13, 2, api.ErrForm},
		{"end 2\n", "", 13, 1, api.ErrForm},
		{"end 2\n", "page 3\n", 13, 1, api.ErrForm},
		{"end 2\n", "end 2\n\n", 14, 1, api.ErrForm},
		{"end 2\n", "end 2\nend 2\n", 14, 1, api.ErrForm},
	} {
		p := parse(strings.Replace(text, x.old, x.new, 1))
		if p.line != x.line || p.word != x.word || p.e != x.e || p.e != api.OK && !same(p.s, ledger.Sheet{}) {
			t.Error(i, p)
		}
	}
	// The text of a sheet with one row has six lines.
	six := textOf(sheetOf(ledger.Weights, five()[:1]))
	lines := strings.SplitAfter(six, "\n")
	if p := parse(strings.Join(lines[:5], "")); len(lines) != 7 || !p.is(parsed{line: 6, word: 1, e: api.ErrForm}) {
		t.Error(six, p)
	}
}

// TestP115Long asks for texts of as many bytes as there may be, and of one more.
func TestP115Long(t *testing.T) {
	for i, x := range []struct {
		text       string
		line, word int
		e          api.Errno
	}{
		{strings.Repeat("9", 65536), 1, 1, api.ErrForm},
		{strings.Repeat("9", 65537), 0, 0, api.ErrLong},
		{strings.Repeat(" ", 65536), 1, 1, api.ErrForm},
		{strings.Repeat("\n", 65536), 1, 1, api.ErrForm},
		{strings.Repeat("\n", 65537), 0, 0, api.ErrLong},
		{exampleText() + strings.Repeat("\n", 65536-len(exampleText())), 14, 1, api.ErrForm},
		{exampleText() + strings.Repeat("\n", 65537-len(exampleText())), 0, 0, api.ErrLong},
		{"book weights 5\npage 1\n0 10 1003 = 1013" + strings.Repeat(" 0", 32000), 3, 6, api.ErrForm},
		{"book weights " + strings.Repeat("1", 65000), 1, 3, api.ErrForm},
	} {
		if p := parse(x.text); !p.is(parsed{line: x.line, word: x.word, e: x.e}) {
			t.Error(i, p)
		}
	}
}
