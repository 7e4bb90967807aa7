package bin

import "laystall/api"

// Check returns the error of a row.
func Check(r Row) api.Errno {
	exists := below(len(r.Bins))
	isSince := below(len(r.Days) + 1)
	switch {
	case !within(len(r.Bins), 1, MaxBins) || len(r.Days) > MaxDays || len(r.Weighings) > MaxWeighings:
		return api.ErrCount
	case !all(r.Bins, func(b Bin) bool { return isSince(b.Since) && all(b.Gets[:], isGet) }) || !all(r.Weighings, allowed):
		return api.ErrRange
	case !all(r.Days, isKind) || !all(r.Weighings, func(g Weighing) bool { return exists(g.From) && exists(g.To) }):
		return api.ErrNoSuch
	case !all(r.Weighings, func(g Weighing) bool { return g.From <= g.To }):
		return api.ErrOrder
	}
	return api.OK
}

// askBins returns the errors of Check, and then those of bins.
func askBins(r Row, from, to int) api.Errno {
	if e := Check(r); e != api.OK {
		return e
	}
	switch {
	case !all([]int{from, to}, below(len(r.Bins))):
		return api.ErrNoSuch
	case from > to:
		return api.ErrOrder
	}
	return api.OK
}

// askFacts returns the errors of facts.
func askFacts(r Row, walk []Fact) api.Errno {
	isBin, isWeighing := below(len(r.Bins)), below(len(r.Weighings))
	exists := func(f Fact) bool { return f.Weighing && isWeighing(f.Index) || !f.Weighing && isBin(f.Index) }
	switch {
	case len(walk) > MaxFacts:
		return api.ErrCount
	case !all(walk, exists):
		return api.ErrNoSuch
	}
	return api.OK
}

// work is a row at work: the spans of its bins, and the weighings that are left out.
type work struct {
	Row
	spans []api.Span
	out   map[int]bool
}

// begin puts a row to work, with all its weighings.
func begin(r Row) work {
	spans := make([]api.Span, len(r.Bins))
	for i, b := range r.Bins {
		spans[i] = api.Span{Lo: lower().held(b, r.Days), Hi: upper().held(b, r.Days)}
	}
	return work{Row: r, spans: spans, out: map[int]bool{}}
}

// without returns the row at work without some weighings.
func (w work) without(weighings []int) work {
	w.out = map[int]bool{}
	for _, i := range weighings {
		w.out[i] = true
	}
	return w
}

// counts reports whether a weighing is not left out, and is not the same as one before it that counts.
func (w work) counts(weighing int) bool {
	if w.out[weighing] {
		return false
	}
	for i, other := range w.Weighings[:weighing] {
		if other == w.Weighings[weighing] && !w.out[i] {
			return false
		}
	}
	return true
}

// span returns from how much to how much the bins of a weighing hold by it.
func (g Weighing) span() api.Span {
	return api.Span{Lo: g.Pounds - g.Error, Hi: g.Pounds + g.Error}
}

// trial is a row at work whose bins are said to hold so much.
type trial struct {
	work
	contents []int
}

// fits reports whether the contents are in the spans of their bins, and all weighings agree with them.
func (t trial) fits() bool {
	for b, pounds := range t.contents {
		// Only what is in its span can be added up without a thought of its size.
		if !within(pounds, t.spans[b].Lo, t.spans[b].Hi) {
			return false
		}
	}
	return all(t.Weighings, t.agrees)
}

// agrees reports whether a weighing agrees with the contents.
func (t trial) agrees(g Weighing) bool {
	return within(sum(t.contents[g.From:g.To+1]...), g.span().Lo, g.span().Hi)
}

// allowed reports whether the numbers of a weighing are within their limits.
func allowed(g Weighing) bool {
	return within(g.Pounds, 0, MaxPounds) && within(g.Error, 0, MaxError)
}

// isGet reports whether a bin can get what is in a span on a day.
func isGet(s api.Span) bool { return 0 <= s.Lo && s.Lo <= s.Hi && s.Hi <= MaxGet }

// isKind reports whether there is such a kind of days.
func isKind(k Kind) bool { return within(int(k), 0, Kinds-1) }

// isChance reports whether a number is a chance.
func isChance(n int) bool { return within(n, 0, MaxChance) }

// all reports whether each element of a list is as asked.
func all[T any](list []T, is func(T) bool) bool {
	for _, x := range list {
		if !is(x) {
			return false
		}
	}
	return true
}

// below tells which numbers are indices of so many things.
func below(count int) func(int) bool {
	return func(n int) bool { return within(n, 0, count-1) }
}

// within reports whether a number is from lo to hi.
func within(n, lo, hi int) bool { return n >= lo && n <= hi }

// sum adds several numbers.
func sum(numbers ...int) int {
	total := 0
	for _, n := range numbers {
		total += n
	}
	return total
}
