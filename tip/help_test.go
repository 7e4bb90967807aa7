package tip_test

import (
	"slices"
	"testing"

	"laystall/api"
	"laystall/tip"
)

// list makes a list of numbers, span a span.
func list(numbers ...int) []int  { return numbers }
func span(lo, hi int) api.Span   { return api.Span{Lo: lo, Hi: hi} }
func point(n int) api.Span       { return span(n, n) }
func empty() api.Span            { return api.Span{} }
func has(s api.Span, n int) bool { return s.Lo <= n && n <= s.Hi }

// examples is the tip of the chapter's examples.
func examples() tip.Tip {
	return tip.Tip{
		Strips:  []tip.Strip{{Area: 100, Base: 10, Line: 30}, {Area: 50, Base: 0, Line: 40}},
		Settles: []api.Span{point(100), span(80, 90), span(60, 95), span(50, 70)},
		Gives:   []api.Span{point(0), span(2, 5), span(1, 3)},
		Soil:    2, Open: 1,
		Layers: []tip.Layer{{Strip: 0, Day: 0, Pounds: 1000}, {Strip: 0, Day: 1, Cover: true}, {Strip: 1, Day: 2, Pounds: 1020}},
	}
}

// plain is a tip of one strip without layers, on which waste stays as high as it was laid.
func plain() tip.Tip {
	return tip.Tip{Strips: []tip.Strip{{Area: 100, Line: 100}}, Settles: []api.Span{point(100)}, Gives: []api.Span{point(0)}}
}

// luck is a row of numbers that is the same in each run.
type luck struct{ state uint64 }

// below returns a number from 0 to n - 1.
func (l *luck) below(n int) int {
	l.state = l.state*6364136223846793005 + 1442695040888963407
	return int((l.state >> 33) % uint64(n))
}

// from returns a number from lo to hi.
func (l *luck) from(lo, hi int) int { return lo + l.below(hi-lo+1) }

// size tells how great the tips of a test are at most, over how many days they are laid, and how far the ends of a span are from what lies between them.
type size struct{ strips, layers, ages, loads, days, wide int }

// small is the size of tips of which all settlings can be gone through, middle that of those on which loads can be laid in all ways, large the greatest there is.
func small() size { return size{strips: 2, layers: 4, ages: 3, loads: 3, days: 6, wide: 2} }
func middle() size {
	return size{strips: 3, layers: 6, ages: 4, loads: 4, days: 9, wide: 15}
}
func large() size {
	return size{strips: tip.MaxStrips, layers: tip.MaxLayers, ages: tip.MaxAges, loads: tip.MaxLoads, days: 30, wide: 30}
}

// strip returns one, whose line is rarely under its ground.
func (l *luck) strip() tip.Strip {
	s := tip.Strip{Area: l.from(40, tip.MaxArea), Base: l.from(0, 60)}
	if l.below(12) == 0 {
		s.Area = l.from(1, 40)
	}
	s.Line = s.Base + l.from(0, 30)
	if l.below(15) == 0 {
		s.Line = l.from(0, tip.MaxLevel)
	}
	return s
}

// settles returns spans of which there is a settling.
func (l *luck) settles(z size) []api.Span {
	var spans []api.Span
	percent := l.from(60, 100)
	for range l.from(1, z.ages) {
		spans = append(spans, span(max(percent-l.from(0, z.wide), 0), min(percent+l.from(0, z.wide), 100)))
		percent = max(percent-l.from(0, list(3, 25)[l.below(2)]), 0)
	}
	return spans
}

// gives returns spans of gas.
func (l *luck) gives() []api.Span {
	var spans []api.Span
	for range l.from(1, tip.MaxAges) {
		lo := l.from(0, l.from(0, tip.MaxGas))
		spans = append(spans, span(lo, l.from(lo, tip.MaxGas)))
	}
	return spans
}

// days returns some, none of which is less than the one before it.
func (l *luck) days(count int, z size) []int {
	first := 0
	if l.below(4) == 0 {
		first = tip.MaxDay - z.days
	}
	days := make([]int, count)
	for i := range days {
		days[i] = first + l.from(0, z.days)
	}
	slices.Sort(days)
	return days
}

// pounds returns those of waste.
func (l *luck) pounds() int {
	if l.below(6) == 0 {
		return l.from(1, tip.MaxPounds)
	}
	return l.from(1, 1200)
}

// tip returns a valid one.
func (l *luck) tip(z size) tip.Tip {
	t := tip.Tip{Settles: l.settles(z), Gives: l.gives(), Soil: l.from(0, 3), Open: l.from(0, 3)}
	if l.below(5) == 0 {
		t.Soil, t.Open = l.from(0, tip.MaxSoil), l.from(0, tip.MaxOpen)
	}
	for range l.from(1, z.strips) {
		t.Strips = append(t.Strips, l.strip())
	}
	for _, day := range l.days(max(l.from(0, z.layers), l.from(0, z.layers)), z) {
		layer := tip.Layer{Strip: l.below(len(t.Strips)), Day: day, Pounds: l.pounds()}
		if l.below(3) == 0 {
			layer.Pounds, layer.Cover = 0, true
		}
		t.Layers = append(t.Layers, layer)
	}
	return t
}

// kept returns a valid tip in which lines are kept, more or less closely.
func (l *luck) kept(z size) tip.Tip {
	t := l.tip(z)
	for strip := range t.Strips {
		t.Strips[strip].Line = ask(t).need(strip, 0) + l.from(0, list(1, 30, 60)[l.below(3)])
		if t.Strips[strip].Line > tip.MaxLevel {
			return l.kept(z)
		}
	}
	return t
}

// loads returns some, in order.
func (l *luck) loads(count int, z size) []tip.Load {
	var loads []tip.Load
	for _, day := range l.days(count, z) {
		loads = append(loads, tip.Load{Day: day, Pounds: l.from(1, list(500, 1500)[l.below(2)])})
	}
	return loads
}

// on returns a strip for each load.
func (l *luck) on(t tip.Tip, loads []tip.Load) []int {
	strips := make([]int, len(loads))
	for i := range strips {
		strips[i] = l.below(len(t.Strips))
	}
	return strips
}

// settling returns one of those of a tip: of the numbers that are left after the one before, any one from which the list can go on.
func (l *luck) settling(t tip.Tip) []int {
	var percents []int
	most := 100
	for age, s := range leftOf(t.Settles) {
		percents = append(percents, l.from(s.Lo, min(s.Hi, most)))
		most = percents[age]
	}
	return percents
}

// settlings returns one for each layer of a tip.
func (l *luck) settlings(t tip.Tip) [][]int {
	lists := make([][]int, len(t.Layers))
	for i, layer := range t.Layers {
		if !layer.Cover {
			lists[i] = l.settling(t)
		}
	}
	return lists
}

// copyOf returns a tip that shares no memory with another one.
func copyOf(t tip.Tip) tip.Tip {
	t.Strips, t.Settles, t.Gives, t.Layers = slices.Clone(t.Strips), slices.Clone(t.Settles), slices.Clone(t.Gives), slices.Clone(t.Layers)
	return t
}

// canFollow returns the numbers of each span that come behind a number of the span before it that is not less.
func canFollow(spans []api.Span) [][101]bool {
	can := make([][101]bool, len(spans))
	for i, s := range spans {
		for n := s.Lo; n <= s.Hi; n++ {
			can[i][n] = i == 0 || slices.Contains(can[i-1][n:], true)
		}
	}
	return can
}

// leftOf returns the least and the greatest number that settlings have for each span: of the numbers that can follow others, those that others can follow. It is nil if there is no settling.
func leftOf(settles []api.Span) []api.Span {
	before := canFollow(settles)
	// From behind, and upside down, the numbers never get less either.
	var down []api.Span
	for _, s := range settles {
		down = append([]api.Span{span(100-s.Hi, 100-s.Lo)}, down...)
	}
	behind := canFollow(down)
	var spans []api.Span
	for i, can := range before {
		found := span(101, -1)
		for n, is := range can {
			if is && behind[len(settles)-1-i][100-n] {
				found = span(min(found.Lo, n), max(found.Hi, n))
			}
		}
		if found.Hi < 0 {
			return nil
		}
		spans = append(spans, found)
	}
	return spans
}

// allSettlings goes through all lists of numbers of spans in which none is greater than the one before it.
func allSettlings(settles []api.Span, visit func(percents []int)) {
	percents := make([]int, len(settles))
	var add func(age int)
	add = func(age int) {
		if age == len(settles) {
			visit(percents)
			return
		}
		for n := settles[age].Lo; n <= settles[age].Hi; n++ {
			if age == 0 || n <= percents[age-1] {
				percents[age] = n
				add(age + 1)
			}
		}
	}
	add(0)
}

// part returns a number times another one, divided by a third one, rounded up, by counting up.
func part(n, times, by int) int {
	whole := n * times / by
	if whole*by < n*times {
		whole++
	}
	return whole
}

// thicknessOf returns that of a layer on a day, of which the numbers of a list are left.
func thicknessOf(t tip.Tip, l tip.Layer, day int, percents []int) int {
	if day < l.Day {
		return 0
	}
	if l.Cover {
		return t.Soil
	}
	age := day - l.Day
	if age >= len(percents) {
		age = len(percents) - 1
	}
	return part(part(l.Pounds, 1, t.Strips[l.Strip].Area), percents[age], 100)
}

// words is a tip of which all is asked by the words of the chapter: the least and the greatest numbers of its settlings.
type words struct {
	tip.Tip
	least, most []int
}

// ask makes words of a tip.
func ask(t tip.Tip) words {
	w := words{Tip: t}
	for _, s := range leftOf(t.Settles) {
		w.least, w.most = append(w.least, s.Lo), append(w.most, s.Hi)
	}
	return w
}

// level returns the least and the greatest level of a strip on a day.
func (w words) level(strip, day int) api.Span {
	level := point(w.Strips[strip].Base)
	for _, l := range w.Layers {
		if l.Strip == strip {
			level.Lo += thicknessOf(w.Tip, l, day, w.least)
			level.Hi += thicknessOf(w.Tip, l, day, w.most)
		}
	}
	return level
}

// need returns the greatest level that a strip has on any day, from one on.
func (w words) need(strip, from int) int {
	most := 0
	for day := from; day <= tip.MaxDay; day++ {
		most = max(most, w.level(strip, day).Hi)
	}
	return most
}

// over returns the first day on which a strip can be over its line, and the first such strip; no day is -1.
func (w words) over() (strip, day int) {
	for day := range tip.MaxDay + 1 {
		for strip, s := range w.Strips {
			if w.level(strip, day).Hi > s.Line {
				return strip, day
			}
		}
	}
	return 0, -1
}

// laid returns a tip with loads laid on strips, each behind all layers whose day is not later.
func (w words) laid(loads []tip.Load, strips []int) words {
	w.Tip = copyOf(w.Tip)
	for i, l := range loads {
		at := 0
		for at < len(w.Layers) && w.Layers[at].Day <= l.Day {
			at++
		}
		w.Layers = slices.Insert(w.Layers, at, tip.Layer{Strip: strips[i], Day: l.Day, Pounds: l.Pounds})
	}
	return w
}

// everyList goes through all lists of strips, in lexicographic order, until it is told to stop.
func everyList(strips, length int, visit func(list []int) bool) {
	of := make([]int, length)
	var add func(i int) bool
	add = func(i int) bool {
		if i == length {
			return visit(of)
		}
		for strip := range strips {
			of[i] = strip
			if !add(i + 1) {
				return false
			}
		}
		return true
	}
	add(0)
}

// fillOf returns the first list of strips on which all loads can be laid, and whether there is one.
func fillOf(t tip.Tip, loads []tip.Load) (strips []int, found bool) {
	w := ask(t)
	everyList(len(t.Strips), len(loads), func(of []int) bool {
		if _, day := w.laid(loads, of).over(); day < 0 {
			strips, found = slices.Clone(of), true
		}
		return !found
	})
	return strips, found
}

// coveredOf reports whether a layer is covered in time.
func coveredOf(t tip.Tip, layer int) bool {
	l := t.Layers[layer]
	for _, c := range t.Layers[layer+1:] {
		if c.Cover && c.Strip == l.Strip && c.Day-l.Day <= t.Open {
			return true
		}
	}
	return false
}

// lateOf returns the waste that is not covered in time.
func lateOf(t tip.Tip) []int {
	var late []int
	for i, l := range t.Layers {
		if !l.Cover && !coveredOf(t, i) {
			late = append(late, i)
		}
	}
	return late
}

// covered returns a tip with other covers in place of those that there are, on their days behind the waste of the same day.
func covered(t tip.Tip, covers []tip.Layer) tip.Tip {
	t = copyOf(t)
	t.Layers = slices.DeleteFunc(t.Layers, func(l tip.Layer) bool { return l.Cover })
	t.Layers = append(t.Layers, covers...)
	slices.SortStableFunc(t.Layers, func(a, b tip.Layer) int { return a.Day - b.Day })
	return t
}

// areApart reports whether layers are apart, day by day.
func areApart(t tip.Tip, layers []int) bool {
	for n, i := range layers {
		if t.Layers[i].Cover {
			return false
		}
		for _, j := range layers[:n] {
			if i == j {
				return false
			}
			a, b := t.Layers[i], t.Layers[j]
			for day := range tip.MaxDay + 1 {
				if a.Strip == b.Strip && has(span(a.Day, a.Day+t.Open), day) && has(span(b.Day, b.Day+t.Open), day) {
					return false
				}
			}
		}
	}
	return true
}

// gasOf returns the least and the greatest number of cubic feet on a day.
func gasOf(t tip.Tip, day int) api.Span {
	all := empty()
	for _, l := range t.Layers {
		if l.Cover || l.Day > day {
			continue
		}
		give := t.Gives[len(t.Gives)-1]
		if age := day - l.Day; age < len(t.Gives) {
			give = t.Gives[age]
		}
		all = span(all.Lo+part(l.Pounds, give.Lo, 100), all.Hi+part(l.Pounds, give.Hi, 100))
	}
	return all
}

// count is 1 for what is so.
func count(is bool) int {
	if is {
		return 1
	}
	return 0
}

// noError fails a test if a call that has no reason for it returns an error.
func noError(t *testing.T, errors ...api.Errno) {
	t.Helper()
	for _, e := range errors {
		if e != api.OK {
			t.Fatal("error", e)
		}
	}
}
