package scale_test

import (
	"math"
	"testing"

	"laystall/api"
	"laystall/scale"
)

// TestP41BooksAtTheirLimits asks for each number of a book at its limits, and one beyond.
func TestP41BooksAtTheirLimits(t *testing.T) {
	for _, x := range []struct {
		name   string
		lo, hi int
		e      api.Errno
		set    func(b *scale.Book, n int)
	}{
		{"proofs", 0, 10, api.ErrCount, func(b *scale.Book, n int) {
			b.Proofs = make([]scale.Proof, n)
			for i := range b.Proofs {
				b.Proofs[i].Minute = i
			}
		}},
		{"trips", 0, 4, api.ErrCount, func(b *scale.Book, n int) {
			b.Trips = make([]scale.Trip, n)
			for i := range b.Trips {
				b.Trips[i].Out.Minute = 1
			}
		}},
		{"error of bridge 0", 0, 50, api.ErrRange, func(b *scale.Book, n int) { b.Errors[0] = n }},
		{"error of bridge 1", 0, 50, api.ErrRange, func(b *scale.Book, n int) { b.Errors[1] = n }},
		{"minute of a proof", 0, 10000, api.ErrRange, func(b *scale.Book, n int) { b.Proofs[2].Minute = n }},
		{"known", 0, 20000, api.ErrRange, func(b *scale.Book, n int) { b.Proofs[1].Known = n }},
		{"reads of a proof", -100, 20000, api.ErrRange, func(b *scale.Book, n int) { b.Proofs[2].Reads = n }},
		{"minute of In", 0, 9999, api.ErrRange, func(b *scale.Book, n int) { b.Trips[0].In.Minute, b.Trips[0].Out.Minute = n, 10000 }},
		{"minute of Out", 1, 10000, api.ErrRange, func(b *scale.Book, n int) { b.Trips[0].In.Minute, b.Trips[0].Out.Minute = 0, n }},
		{"reads of In", 0, 20000, api.ErrRange, func(b *scale.Book, n int) { b.Trips[0].In.Reads = n }},
		{"reads of Out", 0, 20000, api.ErrRange, func(b *scale.Book, n int) { b.Trips[0].Out.Reads = n }},
		{"mud", 0, 200, api.ErrRange, func(b *scale.Book, n int) { b.Trips[0].Mud = n }},
		{"bridge of a proof", 0, 1, api.ErrNoSuch, func(b *scale.Book, n int) { b.Proofs[2].Bridge = n }},
		{"bridge of In", 0, 1, api.ErrNoSuch, func(b *scale.Book, n int) { b.Trips[0].In.Bridge = n }},
		{"bridge of Out", 0, 1, api.ErrNoSuch, func(b *scale.Book, n int) { b.Trips[0].Out.Bridge = n }},
	} {
		for _, n := range []int{x.lo - 1, x.lo, x.hi, x.hi + 1, math.MinInt, math.MaxInt} {
			if x.e == api.ErrCount && (n < 0 || n > 100) {
				continue // there are no such lists
			}
			b := examples(0)
			x.set(&b, n)
			want := api.OK
			switch {
			case n == 10000 && x.name == "minute of In", n == 0 && x.name == "minute of Out":
				want = api.ErrOrder
			case n < x.lo || n > x.hi:
				want = x.e
			}
			if e := scale.Check(b); e != want {
				t.Error(x.name, n, e, want)
			}
		}
	}
}

// TestP41Lists: proofs of the same minute are of different bridges, in whatever order they are; each Out is later than its In.
func TestP41Lists(t *testing.T) {
	for i, x := range []struct {
		spoil func(b *scale.Book)
		e     api.Errno
	}{
		{func(b *scale.Book) { b.Proofs[2].Minute = 10 }, api.ErrTwice},
		{func(b *scale.Book) { b.Proofs[2].Minute = 10; b.Proofs[2].Bridge = 1 }, api.OK},
		{func(b *scale.Book) { b.Proofs[0].Bridge = 1; b.Proofs[2].Bridge = 1; b.Proofs[2].Minute = 10 }, api.ErrTwice},
		{func(b *scale.Book) { b.Proofs[0], b.Proofs[2] = b.Proofs[2], b.Proofs[0] }, api.OK},
		{func(b *scale.Book) { b.Proofs[1] = b.Proofs[0] }, api.ErrTwice},
		{func(b *scale.Book) { b.Trips = append(b.Trips, b.Trips[0]) }, api.OK},
		{func(b *scale.Book) { b.Trips[0].In.Minute = 30 }, api.ErrOrder},
		{func(b *scale.Book) { b.Trips[0].In.Minute = 29 }, api.OK},
		{func(b *scale.Book) { b.Trips[0].In.Minute = 31; b.Trips[0].Out.Bridge = 1 }, api.ErrOrder},
		{func(b *scale.Book) { b.Trips = append(b.Trips, scale.Trip{}) }, api.ErrOrder},
		{func(b *scale.Book) { *b = scale.Book{} }, api.OK},
		{func(b *scale.Book) { b.Proofs, b.Trips = []scale.Proof{}, []scale.Trip{} }, api.OK},
	} {
		b := examples(0)
		x.spoil(&b)
		if e := scale.Check(b); e != x.e {
			t.Error(i, e)
		}
	}
}

// TestP41Random: the books that the other tests make are valid.
func TestP41Random(t *testing.T) {
	l := &luck{1}
	for range 2000 {
		for _, s := range []size{small(), large(), dense()} {
			if b := l.book(s, 5); scale.Check(b) != api.OK {
				t.Fatal(b, scale.Check(b))
			}
		}
	}
}
