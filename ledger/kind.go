package ledger

// kindWords are the words of the kinds, kindColumns the names of their columns.
var kindWords = [...]string{"rounds", "weights", "trays", "lots", "layers", "words"}
var kindColumns = [...][]string{
	{"cart", "bin", "minute", "load"},
	{"bridge", "minute", "reads"},
	{"paper", "rags", "glass", "tin", "bone"},
	{"sacks", "foul", "price"},
	{"strip", "day", "pounds", "cover"},
	{"kind", "place", "lo", "hi"},
}

// exists reports whether there is such a kind.
func (k Kind) exists() bool { return within(int(k), int(Rounds), int(Words)) }

// width returns how many figures a line of a kind has, its total with them.
func (k Kind) width() int { return len(kindColumns[k]) + 1 }

// kinds returns the kinds by their words.
func kinds() map[string]Kind {
	byWord := map[string]Kind{}
	for k, word := range kindWords {
		byWord[word] = Kind(k)
	}
	return byWord
}
