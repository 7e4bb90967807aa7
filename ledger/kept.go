package ledger

import (
	"laystall/api"
	"laystall/belt"
	"laystall/plaint"
	"laystall/scale"
	"laystall/tip"
)

// keep returns the sheet of a kind with a row for each element of a list.
func keep[T any](k Kind, list []T, entry func(T) []int) (Sheet, api.Errno) {
	return Make(k, each(list, entry))
}

// kept returns the list that is kept in a sheet of a kind: the errors of a book, and then that of another kind.
func kept[T any](s Sheet, k Kind, of func(entry []int) T) ([]T, api.Errno) {
	if e := askBook(s); e != api.OK {
		return nil, e
	}
	if s.Kind != k {
		return nil, api.ErrClash
	}
	return each(s.entries(), of), api.OK
}

// A slip as an entry, and back.
func ofSlip(s scale.Slip) []int { return []int{s.Bridge, s.Minute, s.Reads} }
func toSlip(entry []int) scale.Slip {
	return scale.Slip{Bridge: entry[0], Minute: entry[1], Reads: entry[2]}
}

// A tray as an entry, and back.
func ofTray(t belt.Tray) []int { return t[:] }
func toTray(entry []int) belt.Tray {
	var t belt.Tray
	copy(t[:], entry)
	return t
}

// A layer as an entry, and back.
func ofLayer(l tip.Layer) []int {
	entry := []int{l.Strip, l.Day, l.Pounds, 0}
	if l.Cover {
		entry[3] = 1
	}
	return entry
}
func toLayer(entry []int) tip.Layer {
	return tip.Layer{Strip: entry[0], Day: entry[1], Pounds: entry[2], Cover: entry[3] == 1}
}

// tellsCover reports whether the entry of a layer tells whether it is a cover.
func tellsCover(entry []int) bool { return within(entry[3], 0, 1) }

// A word as an entry, and back.
func ofWord(w plaint.Word) []int { return []int{int(w.Kind), w.Place, w.Lo, w.Hi} }
func toWord(entry []int) plaint.Word {
	return plaint.Word{Kind: plaint.Kind(entry[0]), Place: entry[1], Lo: entry[2], Hi: entry[3]}
}
