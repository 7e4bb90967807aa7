package bin

import "laystall/api"

// side is one from which bins are bounded, above or below: the end of a span that counts, and the places between which facts of it lead.
// The number of such a fact is its end with this sign, so that lesser numbers bound more in both cases.
type side struct {
	end    func(api.Span) int
	sign   int
	places func(from, to int) (near, far int)
}

// upper is the side of what bins hold at most.
func upper() side {
	return side{
		end:    func(s api.Span) int { return s.Hi },
		sign:   1,
		places: func(from, to int) (near, far int) { return from, to + 1 },
	}
}

// lower is the side of what bins hold at least.
func lower() side {
	return side{
		end:    func(s api.Span) int { return s.Lo },
		sign:   -1,
		places: func(from, to int) (near, far int) { return to + 1, from },
	}
}

// sideOf returns the side of what bins hold at most, or at least.
func sideOf(most bool) side {
	if most {
		return upper()
	}
	return lower()
}

// lead returns where a fact leads that says that some bins hold what is in a span.
func (s side) lead(from, to int, span api.Span) lead {
	near, far := s.places(from, to)
	return lead{from: near, to: far, number: s.sign * s.end(span)}
}

// held returns this end of the span of a bin.
func (s side) held(b Bin, days []Kind) int {
	var gets []int
	for _, kind := range days[b.Since:] {
		gets = append(gets, s.end(b.Gets[kind]))
	}
	return sum(gets...)
}

// expect returns what can be expected of a day with these chances, which are not all 0.
func (s side) expect(gets [Kinds]api.Span, chances []int) api.Ratio {
	var parts []int
	for kind, chance := range chances {
		parts = append(parts, chance*s.end(gets[kind]))
	}
	return ratio(sum(parts...), sum(chances...))
}

// until returns the least number of days with which there is more than so much; None if there is none.
func (s side) until(now, gets api.Span, most int) int {
	for days := range MaxMore + 1 {
		if s.end(now)+days*s.end(gets) > most {
			return days
		}
	}
	return None
}

// ratio returns a fraction in lowest terms, of numbers of which none is negative and den is not 0.
func ratio(num, den int) api.Ratio {
	common, rest := den, num
	for rest != 0 {
		common, rest = rest, common%rest
	}
	return api.Ratio{Num: num / common, Den: den / common}
}
