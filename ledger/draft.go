package ledger

import (
	"strings"

	"laystall/api"
)

// question asks a word of a text for its error.
type question func(word string) api.Errno

// passage is a line that a text must have: what its words are asked, and how it is read then.
type passage struct {
	questions []question
	canBeTorn bool
	read      func(words []string)
}

// draft is a sheet at work that is read from a text, and the lines that must still come.
type draft struct {
	Sheet
	coming []passage
}

// parse returns the sheet of a text, or its first error with the numbers of its line and of its word.
func parse(text string) (s Sheet, line, word int, e api.Errno) {
	tell := func(atLine, atWord int, because api.Errno) { line, word, e = atLine, atWord, because }
	d := &draft{}
	d.coming = []passage{d.first()}
	read := 0
reading:
	for ; len(d.coming) > 0; read++ {
		words, rest := cut(text)
		next := d.next()
		for i, ask := range next.asked(words) {
			because := api.ErrForm
			if i < len(words) {
				because = ask(words[i])
			}
			if because != api.OK {
				tell(read+1, i+1, because)
				break reading
			}
		}
		next.read(words)
		text = rest
	}
	if e == api.OK && text != "" {
		tell(read+1, 1, api.ErrForm)
	}
	if e != api.OK {
		return Sheet{}, line, word, e
	}
	return d.Sheet, 0, 0, api.OK
}

// cut returns the words of the first line of a text, and what is behind it. The line feed is a word, too: so a word too much is one that is not what it must be, and a line without a line feed lacks its last word.
func cut(text string) (words []string, rest string) {
	line, rest, ended := strings.Cut(text, lineFeed)
	words = strings.Split(line, " ")
	if ended {
		words = append(words, lineFeed)
	}
	return words, rest
}

// next takes the line that must come next.
func (d *draft) next() passage {
	next := d.coming[0]
	d.coming = d.coming[1:]
	return next
}

// asked returns what the words of a line are asked.
func (p passage) asked(words []string) []question {
	if p.canBeTorn && words[0] == tornWord {
		return []question{is(tornWord), is(lineFeed)}
	}
	return p.questions
}

// first is the first line of a text, by which the others are known.
func (d *draft) first() passage {
	count := must(api.ErrCount, func(word string) bool { return number(word) <= MaxRows })
	return passage{
		questions: []question{is(bookWord), isKind(), isNumber().then(count), is(lineFeed)},
		read: func(words []string) {
			d.Kind = kinds()[words[1]]
			d.lay(number(words[2]))
		},
	}
}

// lay lays out the pages for so many rows, and the lines by which a text tells them.
func (d *draft) lay(rows int) {
	for row := range rows {
		if row%PageRows == 0 {
			d.Pages = append(d.Pages, Page{})
		}
		p := &d.Pages[row/PageRows]
		p.Rows = append(p.Rows, nil)
	}
	for page, p := range d.Pages {
		d.coming = append(d.coming, counting(pageWord, page+1))
		for number := range p.lines() {
			d.coming = append(d.coming, d.figures(page, number))
		}
	}
	d.coming = append(d.coming, counting(endWord, len(d.Pages)))
}

// counting is a line that tells the number of a page, or of all pages.
func counting(word string, n int) passage {
	order := must(api.ErrOrder, func(word string) bool { return number(word) == n })
	return passage{
		questions: []question{is(word), isNumber().then(order), is(lineFeed)},
		read:      func([]string) {},
	}
}

// figures is the line of a page with a number.
func (d *draft) figures(page, number int) passage {
	questions := each(before(number), is)
	for range kindColumns[d.Kind] {
		questions = append(questions, isNumber())
	}
	return passage{
		questions: append(questions, is(totalWord), isNumber(), is(lineFeed)),
		canBeTorn: true,
		read: func(words []string) {
			*d.Pages[page].line(number) = numbers(words)
		},
	}
}

// numbers returns those among words.
func numbers(words []string) []int { return each(those(words, figures().isNumber), number) }

// must asks for an error of words that are not as they must be.
func must(e api.Errno, be func(word string) bool) question {
	return func(word string) api.Errno {
		if be(word) {
			return api.OK
		}
		return e
	}
}

// then asks one more question if there is no error.
func (q question) then(more question) question {
	return func(word string) api.Errno {
		if e := q(word); e != api.OK {
			return e
		}
		return more(word)
	}
}

// is asks whether a word is this one.
func is(this string) question {
	return must(api.ErrForm, func(word string) bool { return word == this })
}

// isNumber asks whether a word is a number.
func isNumber() question { return must(api.ErrForm, figures().isNumber) }

// isKind asks whether a word is that of a kind.
func isKind() question {
	missing := must(api.ErrForm, func(word string) bool { return word != lineFeed })
	return missing.then(must(api.ErrWord, func(word string) bool {
		_, found := kinds()[word]
		return found
	}))
}
