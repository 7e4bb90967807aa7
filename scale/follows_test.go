package scale_test

import (
	"math"
	"reflect"
	"slices"
	"testing"

	"laystall/api"
	"laystall/scale"
)

// TestP48Pairs: each drift that fits changes between both proofs of each pair that is apart, so that it has no fewer changes than there are pairs.
func TestP48Pairs(t *testing.T) {
	l := &luck{16}
	seen := [3]int{}
	for range 300 {
		b := l.book(small(), 4)
		pairs, e := scale.Apart(b, 0)
		if e != api.OK {
			continue
		}
		if len(pairs) == 1 { // each pair will do
			for i := range b.Proofs {
				for k := range b.Proofs {
					one := []scale.Pair{{A: i, B: k}}
					if is, _ := scale.Proves(b, 0, one); is && l.below(3) == 0 {
						pairs = one
					}
				}
			}
		}
		every(b, 0, small().minute, few(b, 0), func(values []int, changes int) {
			if changes < len(pairs) {
				t.Fatal(b, pairs, values)
			}
			for _, p := range pairs {
				from, to := b.Proofs[p.A].Minute, b.Proofs[p.B].Minute
				same := slices.ContainsFunc(values[from:to+1], func(value int) bool { return value != values[from] })
				if !same {
					t.Fatal(b, p, values)
				}
			}
		})
		seen[min(len(pairs), 2)]++
	}
	if slices.Min(seen[:]) < 20 {
		t.Error("how many pairs are apart:", seen)
	}
}

// can is what a book says of all minutes of a list, of the nets and of the sum, with at most so many changes; only some of it if drifts do not fit.
func can(b scale.Book, minutes []int, most int) map[[3]int]api.Span {
	said := map[[3]int]api.Span{}
	for bridge := range scale.Bridges {
		for _, minute := range minutes {
			if s, e := scale.At(b, bridge, minute, most); e == api.OK {
				said[[3]int{0, bridge, minute}] = s
			}
		}
	}
	for trip := range b.Trips {
		if s, e := scale.Net(b, trip, most); e == api.OK {
			said[[3]int{1, trip}] = s
		}
	}
	if s, e := scale.Total(b, most); e == api.OK {
		said[[3]int{2}] = s
	}
	return said
}

// narrower reports whether a book says nothing that another one does not, and how much it says more exactly.
func narrower(said, before map[[3]int]api.Span) (int, bool) {
	exact := len(before) - len(said)
	for what, s := range said {
		wide, any := before[what]
		if !any || !inside(s, wide) {
			return 0, false
		}
		exact += count(s != wide)
	}
	return exact, true
}

// TestP48OneMore: one proof more never makes what can be wider, nor the fewest changes fewer; one change more never makes it narrower.
func TestP48OneMore(t *testing.T) {
	l := &luck{17}
	byProofs, byChanges, rises := 0, 0, 0
	for i := range 200 {
		b := l.book([]size{large(), dense()}[i%2], 3+i%9)
		minutes := []int{0, 1, l.below(15), l.below(10001), 10000}
		most := l.below(scale.MaxChanges)
		said := can(b, minutes, most)
		exact, is := narrower(said, can(b, minutes, most+1))
		if !is {
			t.Fatal(b, most)
		}
		byChanges += exact
		for proof := range b.Proofs {
			without := lacking(b, proof)
			exact, is := narrower(said, can(without, minutes, most))
			if !is {
				t.Fatal(b, proof, most)
			}
			byProofs += exact
			for bridge := range scale.Bridges {
				n, e := scale.Fewest(b, bridge)
				m, f := scale.Fewest(without, bridge)
				if e == api.OK && (f != api.OK || n < m) {
					t.Fatal(b, proof, bridge, n, e, m, f)
				}
				rises += count(n > m)
			}
		}
	}
	if byProofs < 100 || byChanges < 100 || rises < 20 {
		t.Error("more exact by proofs, by changes, and more changes:", byProofs, byChanges, rises)
	}
}

// TestP48Explains: proofs that contradict each other with some changes are right without the ones that are wrong, or with the fewest changes, not with fewer.
func TestP48Explains(t *testing.T) {
	l := &luck{18}
	contradict := 0
	for i := range 500 {
		b := l.book([]size{large(), dense()}[i%2], 2+i%9)
		for most := range scale.MaxChanges + 1 {
			few, e := scale.Wrong(b, 0, most)
			n, f := scale.Fewest(b, 0)
			noError(t, e)
			if (len(few) > 0) != (f == api.ErrClash || n > most) {
				t.Fatal(b, most, few, n, f)
			}
			if len(few) == 0 {
				continue
			}
			contradict++
			if m, e := scale.Fewest(lacking(b, few...), 0); m > most || e != api.OK {
				t.Fatal(b, most, few, m, e)
			}
			for _, proof := range few {
				one := slices.DeleteFunc(slices.Clone(few), func(i int) bool { return i == proof })
				if m, e := scale.Fewest(lacking(b, one...), 0); m <= most && e == api.OK {
					t.Fatal(b, most, few, one)
				}
			}
		}
	}
	if contradict < 100 {
		t.Error("proofs that contradict each other:", contradict)
	}
}

// TestP48Sums: the least and the greatest sum lie within the sums of the least and of the greatest nets.
func TestP48Sums(t *testing.T) {
	l := &luck{19}
	within, sums := 0, 0
	for i := range 500 {
		b := l.book([]size{large(), dense()}[i%2], 9)
		most := l.below(scale.MaxChanges + 1)
		total, e := scale.Total(b, most)
		if e != api.OK {
			continue
		}
		var sum api.Span
		for trip := range b.Trips {
			net, e := scale.Net(b, trip, most)
			noError(t, e)
			sum = span(sum.Lo+net.Lo, sum.Hi+net.Hi)
		}
		if !inside(total, sum) {
			t.Fatal(b, most, total, sum)
		}
		sums++
		within += count(total != sum)
	}
	if sums < 100 || within < 20 {
		t.Error("sums:", sums, "within those of the nets:", within)
	}
}

// TestP48Unproved: a drift whose bridge has no proofs can be anything, at each minute.
func TestP48Unproved(t *testing.T) {
	b := proved(3, 1, 9, 1)
	for _, minute := range []int{0, 1, 10, 5000, 10000} {
		for most := range scale.MaxChanges + 1 {
			if s, e := scale.At(b, 1, minute, most); s != span(-50, 50) || e != api.OK {
				t.Error(minute, most, s, e)
			}
		}
	}
}

// strange returns a number that is an ordinary one, one at a limit, or any.
func (l *luck) strange() int {
	edges := [...]int{math.MinInt, math.MinInt + 1, -101, -100, -51, -50, -1, 0, 1, 2, 4, 5, 10, 50, 51, 200, 201, 10000, 10001, 20000, 20001, math.MaxInt - 1, math.MaxInt}
	if l.below(8) > 0 {
		return l.below(3)
	}
	return edges[l.below(len(edges))]
}

// strangeBook returns a book that can be wrong in every place.
func (l *luck) strangeBook() scale.Book {
	b := l.book(dense(), 6)
	odd := func(n *int) {
		if l.below(60) == 0 {
			*n = l.strange()
		}
	}
	for i := range b.Errors {
		odd(&b.Errors[i])
	}
	for i := range b.Proofs {
		p := &b.Proofs[i]
		for _, n := range []*int{&p.Bridge, &p.Minute, &p.Known, &p.Reads} {
			odd(n)
		}
	}
	for i := range b.Trips {
		r := &b.Trips[i]
		for _, n := range []*int{&r.In.Bridge, &r.In.Minute, &r.In.Reads, &r.Out.Bridge, &r.Out.Minute, &r.Out.Reads, &r.Mud} {
			odd(n)
		}
	}
	switch l.below(20) {
	case 0:
		b.Proofs = make([]scale.Proof, l.below(13))
	case 1:
		b.Trips = make([]scale.Trip, l.below(7))
	}
	return b
}

// strangeQuestion returns a question that can be wrong in every place.
func (l *luck) strangeQuestion() question {
	q := question{book: l.strangeBook(), drift: drift(l.strange()), heavy: l.below(2) == 0}
	for _, n := range []*int{&q.bridge, &q.proof, &q.trip, &q.change, &q.minute, &q.most} {
		*n = l.strange()
	}
	for i := range l.below(13) {
		c := scale.Change{Minute: 1 + i, Value: l.strange()}
		if l.below(9) == 0 {
			c.Minute = l.strange()
		}
		q.drift.Changes = append(q.drift.Changes, c)
	}
	for range l.below(13) {
		q.pairs = append(q.pairs, scale.Pair{A: l.strange(), B: l.strange()})
	}
	return q
}

// copied returns a question that shares no memory with another one.
func copied(q question) question {
	q.book.Proofs, q.book.Trips = slices.Clone(q.book.Proofs), slices.Clone(q.book.Trips)
	q.drift.Changes, q.pairs = slices.Clone(q.drift.Changes), slices.Clone(q.pairs)
	return q
}

// answers returns what all functions say to a question.
func answers(q question) []any {
	var list []any
	say := func(x any, e api.Errno) { list = append(list, x, e) }
	list = append(list, scale.Check(q.book))
	say(scale.Span(q.book, q.proof))
	say(scale.Value(q.drift, q.minute))
	say(scale.Fits(q.book, q.bridge, q.drift))
	say(scale.Fewest(q.book, q.bridge))
	say(scale.Find(q.book, q.bridge))
	say(scale.Apart(q.book, q.bridge))
	say(scale.Proves(q.book, q.bridge, q.pairs))
	say(scale.When(q.book, q.bridge, q.change))
	say(scale.At(q.book, q.bridge, q.minute, q.most))
	say(scale.Clash(q.book, q.bridge, q.most))
	say(scale.Wrong(q.book, q.bridge, q.most))
	say(scale.Net(q.book, q.trip, q.most))
	say(scale.Total(q.book, q.most))
	say(scale.Drifts(q.book, q.most, q.heavy))
	say(scale.Doubtful(q.book, q.most))
	in, left, e := scale.Again(q.book, q.trip, q.most)
	return append(list, in, left, e)
}

// TestP01: no question makes a function panic, change its arguments, or answer otherwise when it is asked again.
func TestP01(t *testing.T) {
	l := &luck{20}
	fine := 0
	for range 600 {
		q := l.strangeQuestion()
		before := copied(q)
		first := answers(q)
		fine += count(first[0] == api.OK)
		if !reflect.DeepEqual(q, before) {
			t.Fatal("changed:", before, q)
		}
		if again := answers(q); !reflect.DeepEqual(again, first) {
			t.Fatal(q, first, again)
		}
	}
	if fine < 100 || fine > 500 {
		t.Error("books without an error:", fine)
	}
}

// TestR3NilAndEmpty: a list that is nil is the same as an empty one.
func TestR3NilAndEmpty(t *testing.T) {
	q := ordinary()
	q.book.Proofs, q.book.Trips, q.drift.Changes, q.pairs = nil, nil, nil, nil
	first := answers(q)
	q.book.Proofs, q.book.Trips, q.drift.Changes, q.pairs = []scale.Proof{}, []scale.Trip{}, []scale.Change{}, []scale.Pair{}
	for i, x := range answers(q) {
		if v := reflect.ValueOf(x); v.Kind() == reflect.Slice && v.Len() == 0 && reflect.ValueOf(first[i]).Len() == 0 {
			continue
		}
		if !reflect.DeepEqual(x, first[i]) {
			t.Error(i, x, first[i])
		}
	}
}

// TestR4Memory: who changes a result changes nothing of what was asked, nor of what is answered next, nor of another part of the result.
func TestR4Memory(t *testing.T) {
	torn := ordinary()
	torn.most = 0
	often := ordinary()
	often.book, often.most = proved(0, 1, 2, 3, 1, 2), 4
	often.book.Trips = []scale.Trip{{In: scale.Slip{Minute: 10}, Out: scale.Slip{Minute: 20, Reads: 200}}}
	for _, q := range []question{ordinary(), torn, often} {
		before := copied(q)
		said := answers(q)
		for _, x := range answers(q) {
			switch r := x.(type) {
			case []int:
				clear(r[:cap(r)])
			case []scale.Pair:
				clear(r[:cap(r)])
			case scale.Drift:
				clear(r.Changes[:cap(r.Changes)])
			case []scale.Drift:
				for i, d := range r {
					others := slices.Clone(r[i+1:])
					for k := range others {
						others[k].Changes = slices.Clone(others[k].Changes)
					}
					clear(d.Changes[:cap(d.Changes)])
					if !reflect.DeepEqual(others, slices.Clone(r[i+1:])) {
						t.Error(i, r, others)
					}
				}
			}
		}
		if again := answers(q); !reflect.DeepEqual(again, said) || !reflect.DeepEqual(q, before) {
			t.Error(again, said)
		}
	}
}

// spare is a copy of a list behind which there is room, with the same elements.
func spare[T any](list []T) []T { return slices.Concat(list, list)[:len(list)] }

// TestR4Room: no function writes behind the end of a list.
func TestR4Room(t *testing.T) {
	for most := range 3 {
		q := ordinary()
		q.book.Proofs, q.book.Trips, q.most = spare(q.book.Proofs), spare(q.book.Trips), most
		q.drift.Changes, q.pairs = spare(q.drift.Changes), spare(q.pairs)
		answers(q)
		want := ordinary()
		for _, same := range []bool{
			slices.Equal(q.book.Proofs[:6], slices.Repeat(want.book.Proofs, 2)),
			slices.Equal(q.book.Trips[:2], slices.Repeat(want.book.Trips, 2)),
			slices.Equal(q.drift.Changes[:4], slices.Repeat(want.drift.Changes, 2)),
			slices.Equal(q.pairs[:2], slices.Repeat(want.pairs, 2)),
		} {
			if !same {
				t.Error(q)
			}
		}
	}
}

// TestGreatestBooks asks all functions of books of the greatest size, with the greatest numbers.
func TestGreatestBooks(t *testing.T) {
	b := scale.Book{Errors: [scale.Bridges]int{scale.MaxError, scale.MaxError}}
	for i := range scale.MaxProofs {
		b.Proofs = append(b.Proofs, scale.Proof{Minute: 1000 * i, Reads: 50 - 100*(i%2)})
	}
	for i := range scale.MaxTrips {
		b.Trips = append(b.Trips, scale.Trip{
			In:  scale.Slip{Minute: 2*i + 1, Reads: scale.MaxPounds},
			Out: scale.Slip{Bridge: 1, Minute: scale.MaxMinute},
			Mud: scale.MaxMud,
		})
	}
	// The spans are 0 to 50 and -50 to 0, which have 0 in common.
	n, e := scale.Fewest(b, 0)
	total, f := scale.Total(b, 4)
	in, left, g := scale.Again(b, 3, 4)
	noError(t, e, f, g)
	if n != 0 || total != span(4*(20000-100-100-200), 4*(20000+100+100)) || !in || left != 400+100 {
		t.Error(n, total, in, left)
	}
	b.Errors[0] = scale.MaxError - 1
	n, e = scale.Fewest(b, 0)
	wrong, f := scale.Wrong(b, 0, 4)
	noError(t, e, f)
	// Without 2 the proofs 1 and 3 have one value, without 4 also 5; without 0 nothing is in front of them.
	if n != 9 || !slices.Equal(wrong, []int{0, 2, 4}) {
		t.Error(n, wrong)
	}
}
