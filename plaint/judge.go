package plaint

import (
	"cmp"
	"slices"
)

// verdict tells of which drives a word is true, by how they end. If the word is that a street was served, it is the verdict about the street: Sure is the same number as Served, Untrue as Left, and Doubtful as Open.
func verdict(ends []end, word int) Verdict {
	yes := func(e end) bool { return e.state[word] }
	no := func(e end) bool { return !e.state[word] }
	switch {
	case !slices.ContainsFunc(ends, no):
		return Sure
	case !slices.ContainsFunc(ends, yes):
		return Untrue
	}
	return Doubtful
}

// verdicts returns those about all words, the further ones last.
func (w work) verdicts(ends []end) []Verdict {
	list := make([]Verdict, len(w.clues))
	for word := range list {
		list[word] = verdict(ends, word)
	}
	return list
}

// further returns the verdicts about the further words alone.
func (w work) further(ends []end) []Verdict { return w.verdicts(ends)[len(w.Words):] }

// open returns the streets that are open, if there is a further word for each of them.
func (w work) open(ends []end) []int {
	var streets []int
	for x, v := range w.further(ends) {
		if v == Open {
			streets = append(streets, x)
		}
	}
	return streets
}

// leaves returns how many streets are open if one of them was served, and if it was not: none for an answer that no drive gives.
func (w work) leaves(ends []end, x int) (served, left int) {
	yes, no := split(ends, len(w.Words)+x)
	return len(w.open(yes)), len(w.open(no))
}

// split parts the drives of which a word is true from the others, by how they end.
func split(ends []end, word int) (yes, no []end) {
	for _, e := range ends {
		if e.state[word] {
			yes = append(yes, e)
		} else {
			no = append(no, e)
		}
	}
	return yes, no
}

// fewest returns the first of the shortest lists of words that are untrue of some drive.
func (w work) fewest() []int {
	var best []int
	for i, e := range w.hunt().ends {
		words := slices.DeleteFunc(indices(w.Words), func(word int) bool { return e.state[word] })
		if i == 0 || cmp.Or(len(words)-len(best), slices.Compare(words, best)) < 0 {
			best = words
		}
	}
	return best
}

// exclude reports whether some words are not all true of any drive.
func exclude(ends []end, words []int) bool {
	return all(ends, func(e end) bool { return untrue(e.of(words)...) > 0 })
}

// needed returns those of words that exclude each other which are left if, one after the other, each one is left out that can be.
func needed(ends []end, words []int) []int {
	left := words
search:
	for _, word := range words {
		others := slices.DeleteFunc(slices.Clone(left), func(n int) bool { return n == word })
		for _, e := range ends {
			if untrue(e.of(others)...) == 0 {
				continue search // a drive of which all others are true: the word has to stay
			}
		}
		left = others
	}
	return left
}
