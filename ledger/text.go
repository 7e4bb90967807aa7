package ledger

import (
	"strconv"
	"strings"
)

// The words of a text, beside those of kinds and numbers.
const (
	bookWord    = "book"
	pageWord    = "page"
	sumWord     = "sum"
	carriedWord = "carried"
	endWord     = "end"
	tornWord    = "?"
	totalWord   = "="
)

// lineFeed ends a line.
const lineFeed = "\n"

// join returns the line of a text with some words.
func join(words ...string) string { return strings.Join(words, " ") + lineFeed }

// text returns that of a sheet.
func (s Sheet) text() string {
	var b strings.Builder
	b.WriteString(join(bookWord, kindWords[s.Kind], strconv.Itoa(len(s.rows()))))
	for i, p := range s.Pages {
		b.WriteString(join(pageWord, strconv.Itoa(i+1)))
		for number, l := range p.lines() {
			b.WriteString(join(l.words(number)...))
		}
	}
	b.WriteString(join(endWord, strconv.Itoa(len(s.Pages))))
	return b.String()
}

// words returns those of a line with a number.
func (l Line) words(number int) []string {
	if l.isTorn() {
		return []string{tornWord}
	}
	words := append(before(number), each(l.entry(), strconv.Itoa)...)
	return append(words, totalWord, strconv.Itoa(l[len(l)-1]))
}

// before returns the words before the figures of a line with a number.
func before(number int) []string {
	switch number {
	case SumLine:
		return []string{sumWord}
	case CarriedLine:
		return []string{carriedWord}
	}
	return nil
}

// decimal is how a number is written: with so many digits at most.
type decimal struct{ digits int }

// figures are written as a number up to MaxFigure.
func figures() decimal { return decimal{digits: 8} }

// isNumber reports whether a word is one.
func (d decimal) isNumber(word string) bool {
	for _, digit := range word {
		if digit < '0' || digit > '9' {
			return false
		}
	}
	return within(len(word), 1, d.digits) && (word == "0" || word[0] != '0')
}

// number returns that of a word.
func number(word string) int {
	n, _ := strconv.Atoi(word)
	return n
}
