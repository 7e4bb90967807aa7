package bin_test

import (
	"slices"
	"testing"

	"laystall/api"
	"laystall/bin"
)

// only is a row with some of its weighings alone.
func only(r bin.Row, weighings []int) bin.Row {
	var list []bin.Weighing
	for _, i := range weighings {
		list = append(list, r.Weighings[i])
	}
	r.Weighings = list
	return r
}

// clashes reports whether no contents fit a row with some of its weighings alone.
func clashes(t *testing.T, r bin.Row, weighings []int) bool {
	t.Helper()
	_, e := bin.Truth(only(r, weighings))
	if e != api.OK && e != api.ErrClash {
		t.Fatal(r, e)
	}
	return e == api.ErrClash
}

// indices are those of all weighings of a row.
func indices(r bin.Row) []int {
	var list []int
	for i := range r.Weighings {
		list = append(list, i)
	}
	return list
}

// lacking is a list without one of its numbers.
func lacking(list []int, n int) []int {
	return slices.DeleteFunc(slices.Clone(list), func(m int) bool { return m == n })
}

// clash leaves out one weighing after the other, by the words of the chapter.
func clash(t *testing.T, r bin.Row) []int {
	list := indices(r)
	for _, i := range indices(r) {
		if less := lacking(list, i); clashes(t, r, less) {
			list = less
		}
	}
	return list
}

// fewest tries all lists of weighings: the shortest ones first, and of these the first one.
func fewest(t *testing.T, r bin.Row) []int {
	var pick func(list []int, more int) ([]int, bool)
	pick = func(list []int, more int) ([]int, bool) {
		if more == 0 {
			left := slices.DeleteFunc(indices(r), func(i int) bool { return slices.Contains(list, i) })
			return list, !clashes(t, r, left)
		}
		next := 0
		if len(list) > 0 {
			next = list[len(list)-1] + 1
		}
		for i := next; i < len(r.Weighings); i++ {
			if found, ok := pick(append(slices.Clone(list), i), more-1); ok {
				return found, true
			}
		}
		return nil, false
	}
	for size := 0; ; size++ {
		if list, ok := pick(nil, size); ok {
			return list
		}
	}
}

// TestP25Examples are that of the chapter, and rows in which several weighings are wrong.
func TestP25Examples(t *testing.T) {
	light, heavy := bin.Weighing{Pounds: 20}, bin.Weighing{To: 2, Pounds: 100}
	for i, x := range []struct {
		r          bin.Row
		clash, few []int
		e          api.Errno
	}{
		{examples(), nil, nil, api.ErrNone},
		{examples(first()), nil, nil, api.ErrNone},
		{examples(first(), second()), []int{0, 1}, []int{0}, api.OK},
		{examples(light), []int{0}, []int{0}, api.OK},
		{examples(first(), light), []int{1}, []int{1}, api.OK},
		{examples(light, first(), light, second()), []int{2}, []int{0, 1, 2}, api.OK},
		{examples(second(), first(), second()), []int{1, 2}, []int{1}, api.OK},
		// The same weighing twice is wrong twice.
		{examples(first(), second(), first()), []int{1, 2}, []int{1}, api.OK},
		{examples(first(), second(), first(), second()), []int{2, 3}, []int{0, 2}, api.OK},
		{examples(heavy, first(), second()), []int{1, 2}, []int{1}, api.OK},
		{examples(slices.Repeat([]bin.Weighing{light}, 10)...), []int{9}, []int{0, 1, 2, 3, 4, 5, 6, 7, 8, 9}, api.OK},
	} {
		list, e := bin.Clash(x.r)
		few, f := bin.Fewest(x.r)
		if !slices.Equal(list, x.clash) || !slices.Equal(few, x.few) || e != x.e || f != api.OK {
			t.Error(i, list, few, e, f)
		}
	}
}

// TestP25Definition: both lists are those of the chapter's words, in rows with few and with many weighings that are wrong.
func TestP25Definition(t *testing.T) {
	l := &luck{9}
	sizes := map[int]int{}
	for i := range 600 {
		r := l.row(large(), 1+i%8)
		if len(r.Weighings) > 2 && i%3 == 0 { // the same weighing twice
			r.Weighings[l.below(len(r.Weighings))] = r.Weighings[l.below(len(r.Weighings))]
		}
		list, e := bin.Clash(r)
		few, f := bin.Fewest(r)
		want := fewest(t, r)
		sizes[len(want)]++
		if !slices.Equal(few, want) || f != api.OK {
			t.Fatal(r, few, f, want)
		}
		if len(want) == 0 {
			if list != nil || e != api.ErrNone {
				t.Fatal(r, list, e)
			}
			continue
		}
		if want := clash(t, r); !slices.Equal(list, want) || e != api.OK {
			t.Fatal(r, list, e, want)
		}
		for _, i := range list {
			if clashes(t, r, lacking(list, i)) {
				t.Fatal(r, list, "contradict without", i)
			}
		}
	}
	if sizes[0] < 50 || sizes[1] < 50 || sizes[2] < 20 || sizes[3] < 10 {
		t.Error("how many weighings are wrong:", sizes)
	}
}

// TestP25SmallRows asks by all contents: without the fewest weighings some fit, and weighings that contradict leave none.
func TestP25SmallRows(t *testing.T) {
	l := &luck{10}
	for range 1000 {
		r := l.row(small(), 2)
		few, e := bin.Fewest(r)
		noError(t, e)
		right := slices.DeleteFunc(indices(r), func(i int) bool { return slices.Contains(few, i) })
		if len(fitting(only(r, right))) == 0 {
			t.Fatal(r, few)
		}
		list, e := bin.Clash(r)
		if (e == api.OK) != (len(fitting(r)) == 0) || e == api.OK && len(fitting(only(r, list))) > 0 {
			t.Fatal(r, list, e)
		}
	}
}
