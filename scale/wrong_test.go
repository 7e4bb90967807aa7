package scale_test

import (
	"slices"
	"testing"

	"laystall/api"
	"laystall/scale"
)

// clash leaves out one proof after the other, by the words of the chapter.
func clash(b scale.Book, bridge, most int) []int {
	var out []int
	for _, i := range indices(b, bridge) {
		if with := append(slices.Clone(out), i); !fits(lacking(b, with...), bridge, most) {
			out = with
		}
	}
	return slices.DeleteFunc(indices(b, bridge), func(i int) bool { return slices.Contains(out, i) })
}

// wrong tries all lists of proofs of a bridge: the shortest ones first, and of these the first one.
func wrong(b scale.Book, bridge, most int) []int {
	proofs := indices(b, bridge)
	var pick func(list, from []int, more int) ([]int, bool)
	pick = func(list, from []int, more int) ([]int, bool) {
		if more == 0 {
			return list, fits(lacking(b, list...), bridge, most)
		}
		for i, proof := range from {
			if found, ok := pick(append(slices.Clone(list), proof), from[i+1:], more-1); ok {
				return found, true
			}
		}
		return nil, false
	}
	for more := 0; ; more++ {
		if list, ok := pick(nil, proofs, more); ok {
			return list
		}
	}
}

// TestP45Examples are that of the chapter, and books in which several proofs are wrong.
func TestP45Examples(t *testing.T) {
	// The proofs of bridge 0 are not in order, and some of bridge 1 are among them.
	mixed := scale.Book{Proofs: []scale.Proof{
		{Minute: 30, Reads: 3}, {Bridge: 1, Minute: 1, Reads: 9}, {Minute: 20, Reads: 3}, {Minute: 10, Reads: 5}, {Bridge: 1, Minute: 2}, {Minute: 40, Reads: 5},
	}}
	many := proved(0, 0, 1, 2, 3, 4, 5, 6, 7, 8, 9)
	for i, x := range []struct {
		b            scale.Book
		bridge, most int
		clash, wrong []int
	}{
		{examples(0), 0, 0, []int{1, 2}, []int{2}},
		{examples(0), 0, 1, nil, nil},
		{examples(0), 1, 0, nil, nil},
		{scale.Book{}, 0, 4, nil, nil},
		{proved(1, 3, 6, 3), 0, 0, []int{1, 2}, []int{1}},
		{proved(1, 3, 6, 3), 0, 1, []int{0, 1, 2}, []int{0}},
		{proved(1, 3, 6, 3), 0, 2, nil, nil},
		{proved(1, 3, 6, 3, 3), 0, 1, []int{0, 1, 3}, []int{0}},
		{proved(1, 0, 3, 6, 9), 0, 0, []int{2, 3}, []int{0, 1, 2}},
		{proved(1, 5, 52), 0, 4, []int{1}, []int{1}},
		{proved(1, 52, 5, -52), 0, 4, []int{2}, []int{0, 2}},
		{proved(1, 52), 0, 0, []int{0}, []int{0}},
		{mixed, 0, 0, []int{2, 5}, []int{0, 2}},
		{mixed, 0, 1, []int{2, 3, 5}, []int{3}},
		{mixed, 1, 0, []int{1, 4}, []int{1}},
		{many, 0, 0, []int{8, 9}, []int{0, 1, 2, 3, 4, 5, 6, 7, 8}},
		{many, 0, 4, []int{4, 5, 6, 7, 8, 9}, []int{0, 1, 2, 3, 4}},
	} {
		list, e := scale.Clash(x.b, x.bridge, x.most)
		few, f := scale.Wrong(x.b, x.bridge, x.most)
		want := api.OK
		if x.clash == nil {
			want = api.ErrNone
		}
		if !slices.Equal(list, x.clash) || !slices.Equal(few, x.wrong) || e != want || f != api.OK {
			t.Error(i, list, few, e, f)
		}
	}
}

// TestP45Definition: both lists are those of the chapter's words, in books with few and with many proofs that are wrong.
func TestP45Definition(t *testing.T) {
	l := &luck{11}
	seen := map[int]int{}
	for i := range 1500 {
		b := l.book([]size{large(), dense()}[i%2], 1+i%7)
		for bridge := range scale.Bridges {
			most := l.below(scale.MaxChanges)
			few, e := scale.Wrong(b, bridge, most)
			want := wrong(b, bridge, most)
			seen[len(want)]++
			if !slices.Equal(few, want) || e != api.OK {
				t.Fatal(b, bridge, most, few, e, want)
			}
			list, e := scale.Clash(b, bridge, most)
			if len(want) == 0 {
				if list != nil || e != api.ErrNone {
					t.Fatal(b, bridge, most, list, e)
				}
				continue
			}
			if want := clash(b, bridge, most); !slices.Equal(list, want) || e != api.OK {
				t.Fatal(b, bridge, most, list, e, want)
			}
		}
	}
	for n, least := range map[int]int{0: 100, 1: 100, 2: 50, 3: 20} {
		if seen[n] < least {
			t.Error("how many proofs are wrong:", seen)
		}
	}
}
