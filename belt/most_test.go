package belt_test

import (
	"math"
	"slices"
	"testing"

	"laystall/api"
	"laystall/belt"
)

// ring is a belt on which one piece more is taken only if all hands take another material instead.
func ring() belt.Belt {
	b := belt.Belt{Trays: []belt.Tray{{4, 4, 4, 4, 4}, {4, 4, 4, 4, 0}}}
	for m := range belt.Bone {
		b.Hands = append(b.Hands, belt.Hand{Takes: takes(m, m+1), Strength: 4})
	}
	b.Hands = append(b.Hands, belt.Hand{Takes: takes(belt.Paper), Strength: 3})
	return b
}

// TestP53Examples: the chapter's examples, and pieces that go round by other hands.
func TestP53Examples(t *testing.T) {
	rests := examples()
	rests.Hands[0].Rests = list(1)
	for i, x := range []struct {
		b     belt.Belt
		mosts []int
		all   int
	}{
		{examples(), list(11, 8), 19},
		{staffed(examples(), 0), list(8, 6), 14},
		{staffed(examples(), 1), list(3, 3), 6},
		{staffed(examples()), list(0, 0), 0},
		{staffed(examples(), 0, 1, 0), list(12, 8), 20},
		{rests, list(11, 3), 14},
		{ring(), list(19, 16), 35},
		{belt.Belt{Trays: make([]belt.Tray, 1), Hands: ring().Hands}, list(0), 0},
	} {
		mosts, all, e := belt.Most(x.b)
		noError(t, e)
		if !slices.Equal(mosts, x.mosts) || all != x.all {
			t.Error(i, mosts, all)
		}
	}
}

// TestP53AllSharings goes through all sharings of small trays: the most is taken in one, and in that which Share returns.
func TestP53AllSharings(t *testing.T) {
	l := &luck{4}
	between := 0
	for range 500 {
		b := l.belt(small())
		mosts, all, e := belt.Most(b)
		noError(t, e)
		total := 0
		for tray := range b.Trays {
			most := 0
			sharings(b, tray, func(sharing []belt.Tray) { most = max(most, pieces(sharing...)) })
			if len(mosts) != len(b.Trays) || mosts[tray] != most {
				t.Fatal(b, tray, mosts, most)
			}
			total += most
			shared(t, b, tray, most)
			between += count(most > 0 && most < pieces(b.Trays[tray]))
		}
		if all != total {
			t.Fatal(b, all, total)
		}
	}
	if between < 50 {
		t.Error("trays of which a part can be taken:", between)
	}
}

// shared asks for a sharing in which so many pieces are taken.
func shared(t *testing.T, b belt.Belt, tray, most int) {
	t.Helper()
	sharing, e := belt.Share(b, tray)
	n, f := belt.Shared(b, tray, sharing)
	noError(t, e, f)
	if !isSharing(b, tray, sharing) || pieces(sharing...) != most || n != most {
		t.Fatal(b, tray, sharing, n, most)
	}
}

// TestP53Share: sharings of great trays take as many pieces as some set allows.
func TestP53Share(t *testing.T) {
	l := &luck{5}
	moved := 0
	for i := range 600 {
		b := l.belt([]size{large(), even()}[i%2])
		mosts, all, e := belt.Most(b)
		noError(t, e)
		total := 0
		left, _ := byRule(b)
		for tray := range b.Trays {
			most := leastBound(b, tray)
			if mosts[tray] != most {
				t.Fatal(b, tray, mosts, most)
			}
			total += most
			shared(t, b, tray, most)
			moved += count(most > pieces(b.Trays[tray])-pieces(left[tray]))
		}
		if all != total {
			t.Fatal(b, all, total)
		}
	}
	if moved < 100 {
		t.Error("trays of which more can be taken than by the rule:", moved)
	}
}

// TestP53Shared: sharings of the chapter's first trays, and what is none.
func TestP53Shared(t *testing.T) {
	for i, x := range []struct {
		tray    int
		sharing []belt.Tray
		want    int
		e       api.Errno
	}{
		{0, []belt.Tray{{4, 4}, {1, 0, 2}}, 11, api.OK},
		{0, []belt.Tray{{}, {}}, 0, api.OK},
		{0, []belt.Tray{{6, 2}, {0, 0, 2}}, 10, api.OK},
		{0, []belt.Tray{{3, 4}, {3}}, 10, api.OK},
		{0, []belt.Tray{{4, 4}, {3}}, 0, api.ErrWrong},
		{0, []belt.Tray{{5, 4}, {}}, 0, api.ErrWrong},
		{0, []belt.Tray{{}, {2, 0, 2}}, 0, api.ErrWrong},
		{0, []belt.Tray{{3, 5}, {}}, 0, api.ErrWrong},
		{0, []belt.Tray{{0, 0, 1}, {}}, 0, api.ErrWrong},
		{0, []belt.Tray{{}, {0, 1}}, 0, api.ErrWrong},
		{0, []belt.Tray{{0, 0, 0, 1}, {}}, 0, api.ErrWrong},
		{0, []belt.Tray{{-1, 4}, {}}, 0, api.ErrWrong},
		{0, []belt.Tray{{}, {0, -1}}, 0, api.ErrWrong},
		{0, []belt.Tray{{}, {0, 0, 0, 0, -1}}, 0, api.ErrWrong},
		{0, []belt.Tray{{math.MaxInt, math.MaxInt}, {math.MaxInt, 0, math.MaxInt}}, 0, api.ErrWrong},
		{0, []belt.Tray{{math.MinInt, math.MinInt}, {math.MinInt, 0, math.MinInt}}, 0, api.ErrWrong},
		{0, []belt.Tray{{math.MaxInt, math.MinInt}, {1}}, 0, api.ErrWrong},
		{1, []belt.Tray{{1, 5}, {2}}, 8, api.OK},
		{1, []belt.Tray{{2, 5}, {1}}, 0, api.ErrWrong},
		{1, []belt.Tray{{1, 5}, {3}}, 0, api.ErrWrong},
		{0, nil, 0, api.ErrCount},
		{0, make([]belt.Tray, 1), 0, api.ErrCount},
		{0, make([]belt.Tray, 3), 0, api.ErrCount},
	} {
		if n, e := belt.Shared(examples(), x.tray, x.sharing); n != x.want || e != x.e {
			t.Error(i, n, e)
		}
	}
	if n, e := belt.Shared(staffed(examples()), 1, nil); n != 0 || e != api.OK {
		t.Error(n, e)
	}
}

// TestP53SharedOrNot changes sharings a little: what is one, and what is none, and how many pieces are taken.
func TestP53SharedOrNot(t *testing.T) {
	l := &luck{6}
	right, wrong := 0, 0
	for range 2000 {
		b := l.belt(even())
		if len(b.Hands) == 0 {
			continue
		}
		tray := l.below(len(b.Trays))
		sharing, e := belt.Share(b, tray)
		noError(t, e)
		for range l.from(1, 4) {
			sharing[l.below(len(sharing))][l.below(belt.Kinds)] += l.from(-2, 1)
		}
		n, e := belt.Shared(b, tray, sharing)
		if !isSharing(b, tray, sharing) {
			wrong++
			if n != 0 || e != api.ErrWrong {
				t.Fatal(b, tray, sharing, n, e)
			}
			continue
		}
		right++
		if n != pieces(sharing...) || e != api.OK {
			t.Fatal(b, tray, sharing, n, e)
		}
	}
	if right < 100 || wrong < 100 {
		t.Error("sharings, and what is none:", right, wrong)
	}
}
