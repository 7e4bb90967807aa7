package round

// visit is a cart that comes to a bin at a minute, None if it cannot, and has so many pounds if it empties it.
type visit struct {
	cart           Cart
	minute, pounds int
}

// stop is what can stop a cart at a bin.
type stop struct {
	kind  Kind
	stops func(v visit) bool
}

// stops returns what can stop a cart at a bin, in the order in which it is asked.
func stops() []stop {
	return []stop{
		{Late, func(v visit) bool { return v.minute == None }},
		{Full, func(v visit) bool { return v.pounds > v.cart.Holds }},
		{Tired, func(v visit) bool { return v.pounds > v.cart.Lifts }},
	}
}

// course is how a round goes: the minutes at which the bins before the stop are emptied, and the outcome.
type course struct {
	ready []int
	end   Outcome
}

// follow returns how a round goes with some contents.
func (w work) follow(c Cart, round, contents []int) course {
	here := w.leave(c)
	end := Outcome{Kind: Done, Bin: None}
	var ready []int
search:
	for _, bin := range round {
		b := w.Bins[bin]
		v := visit{cart: c, minute: w.arrive(c, here, b.Corner), pounds: sum(here.load, contents[bin])}
		for _, s := range stops() {
			if s.stops(v) {
				end = Outcome{Kind: s.kind, Bin: bin, Minute: v.minute}
				break search
			}
		}
		here = state{corner: b.Corner, minute: v.minute + b.Minutes, load: v.pounds}
		ready = append(ready, here.minute)
	}
	if end.Kind == Done {
		end.Minute = c.inTime(w.arrive(c, here, w.Tip))
	}
	if end.Minute == None {
		end.Kind, end.Minute = Late, here.minute
	}
	end.Load = here.load
	return course{ready: ready, end: end}
}

// safe reports whether a round is safe, if each bin can hold so much more.
func (w work) safe(c Cart, round []int, more int) bool {
	return w.follow(c, round, w.greatest(more)).end.Kind == Done
}
