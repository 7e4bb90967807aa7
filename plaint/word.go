package plaint

import "slices"

// clue is a word at work: turns tells which moves make it true, if it was untrue before, or untrue, if it was true.
type clue struct {
	Word
	turns func(m move) bool
}

// clue puts a word to work.
func (w Word) clue() clue {
	switch w.Kind {
	case Seen:
		return clue{Word: w, turns: w.seenBy}
	case Passed:
		return clue{Word: w, turns: w.passedBy}
	}
	return clue{Word: w, turns: w.deniedBy}
}

// first reports whether a word is true before the first move.
func (w Word) first() bool { return w.Kind == Away }

// seenBy reports whether the cart is at the corner of a word in time. Where a move begins it was at the end of the one before.
func (w Word) seenBy(m move) bool { return m.to == w.Place && within(m.end, w.Lo, w.Hi) }

// passedBy reports whether a move passes the street of a word in time.
func (w Word) passedBy(m move) bool {
	return m.passes(w.Place) && m.Start >= w.Lo && m.end <= w.Hi
}

// deniedBy reports whether the cart is in the street of a word in one of its minutes.
func (w Word) deniedBy(m move) bool {
	return m.passes(w.Place) && m.Start <= w.Hi && m.end > w.Lo
}

// passes reports whether a move is a step through a street.
func (m move) passes(x int) bool { return !m.waits && m.Street == x }

// serving is the word that is true of the drives that serve a street.
func serving(x int) Word { return Word{Kind: Passed, Place: x, Hi: MaxUntil} }

// services returns, for each street, the word that is true of the drives that serve it.
func (c Case) services() []Word {
	var words []Word
	for x := range c.Town.Streets {
		words = append(words, serving(x))
	}
	return words
}

// sights returns, for each corner, the word that is true of the drives on which the cart is there at a minute.
func (c Case) sights(minute int) []Word {
	var words []Word
	for corner := range c.Town.Corners {
		words = append(words, Word{Kind: Seen, Place: corner, Lo: minute, Hi: minute})
	}
	return words
}

// maxFurther is how many further words there are at most: one for each street, or for each corner.
const maxFurther = MaxStreets

// state is what is true of a drive so far: the words of the case, and then further ones, by which one asks for something else.
type state [MaxWords + maxFurther]bool

// work is a case at work, with its words, and further ones.
type work struct {
	Case
	clues []clue
}

// begin puts a case to work.
func begin(c Case, further ...Word) work {
	w := work{Case: c}
	for _, word := range slices.Concat(c.Words, further) {
		w.clues = append(w.clues, word.clue())
	}
	return w
}

// untold returns what is true before the first move.
func (w work) untold() state {
	var s state
	for i, c := range w.clues {
		s[i] = c.first()
	}
	return s
}

// turned returns the words that a move turns.
func (w work) turned(m move) []int {
	var words []int
	for i, c := range w.clues {
		if c.turns(m) {
			words = append(words, i)
		}
	}
	return words
}

// turn returns a state in which some words were turned, now or before.
func (w work) turn(s state, words []int) state {
	for _, i := range words {
		s[i] = !w.clues[i].first()
	}
	return s
}

// told returns what is true of all moves of a drive.
func (w work) told(moves []move) state {
	s := w.untold()
	for _, m := range moves {
		s = w.turn(s, w.turned(m))
	}
	return s
}

// fits reports whether a drive fits.
func (w work) fits(s state) bool { return untrue(s[:len(w.Words)]...) <= w.Lies }

// untrue returns how many of some words are untrue.
func untrue(truths ...bool) int {
	count := 0
	for _, is := range truths {
		if !is {
			count++
		}
	}
	return count
}

// of returns which of some words are true.
func (s state) of(words []int) []bool {
	var truths []bool
	for _, word := range words {
		truths = append(truths, s[word])
	}
	return truths
}
