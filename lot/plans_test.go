package lot_test

import (
	"math"
	"slices"
	"testing"

	"laystall/api"
	"laystall/lot"
)

// planned asks for a plan that brings most, holds it against the words of the chapter, and returns its lots.
func planned(t *testing.T, s lot.Store, most int) [][]int {
	t.Helper()
	plan, brings, e := lot.Best(s)
	earns, f := lot.Earns(s, plan)
	noError(t, e, f)
	sold, sum := make([]int, len(s.Pickings)), 0
	for _, sacks := range plan {
		_, n := sureOf(s, sacks)
		if n == 0 || len(sacks) != len(s.Pickings) {
			t.Fatal(s, plan)
		}
		sum += n
		for i, k := range sacks {
			sold[i] += k
			if k < 0 || sold[i] > s.Pickings[i].Sacks {
				t.Fatal(s, plan)
			}
		}
	}
	if len(plan) > s.Lots || brings != most || earns != most || sum != most {
		t.Fatal(s, plan, brings, earns, sum, most)
	}
	return plan
}

// TestP65BestExamples: the chapter's example, and stores of which several lots, one, or none can be sold.
func TestP65BestExamples(t *testing.T) {
	clean := examples()
	clean.Pickings[1].Opened = 6
	two := lot.Store{Pickings: []lot.Picking{{Sacks: 2}, {Sacks: 2, Worst: 1}}, Grades: []lot.Grade{{0, 10}, {50, 4}}}
	three := lot.Store{
		Pickings: []lot.Picking{{Sacks: 2, Worst: 1}, {Sacks: 6, Worst: 4}, {Sacks: 6}},
		Grades:   []lot.Grade{{0, 100}, {50, 90}, {70, 80}},
	}
	for i, x := range []struct {
		s    lot.Store
		want []int
	}{
		// by how many lots can be sold, from none on
		{examples(), list(0, 60, 60, 60)},
		{clean, list(0, 66, 69, 69)},
		{two, list(0, 20, 28, 28)},
		// All sacks at 90, or all but 4 clean ones, which are sold at 100: with 5 foul ones of 9 left the rest would not have its grade.
		{three, list(0, 14*90, 10*90+4*100, 10*90+4*100)},
		{lot.Store{Pickings: make([]lot.Picking, 4), Grades: clean.Grades}, list(0, 0, 0, 0)},
		{lot.Store{Pickings: clean.Pickings}, list(0, 0, 0, 0)},
	} {
		for lots, most := range x.want {
			x.s.Lots = lots
			if plan := planned(t, x.s, most); lots == 0 && plan != nil {
				t.Error(i, plan)
			}
		}
	}
}

// TestP65BestAll goes through all plans of small stores, and asks what each of them brings.
func TestP65BestAll(t *testing.T) {
	l := &luck{9}
	wrong := 0
	for range 60 {
		s := l.store(small())
		most := 0
		var plan [][]int
		var add func(brings int, left []int)
		add = func(brings int, left []int) {
			n, e := lot.Earns(s, plan)
			if slices.Min(left) < 0 {
				wrong++
				if n != 0 || e != api.ErrWrong {
					t.Fatal(s, plan, n, e)
				}
				return
			}
			if n != brings || e != api.OK {
				t.Fatal(s, plan, n, brings, e)
			}
			most = max(most, brings)
			if len(plan) == s.Lots {
				return
			}
			parts(stock(s), func(sacks []int) {
				_, n := sureOf(s, sacks)
				rest := slices.Clone(left)
				for i, k := range sacks {
					rest[i] -= k
				}
				plan = append(plan, slices.Clone(sacks))
				add(brings+n, rest)
				plan = plan[:len(plan)-1]
			})
		}
		add(0, stock(s))
		planned(t, s, most)
	}
	if wrong < 1000 {
		t.Error("plans that have too much of a picking:", wrong)
	}
}

// TestP65Best: plans of stores of all sizes.
func TestP65Best(t *testing.T) {
	l := &luck{10}
	lots := map[int]int{}
	for i := range 250 {
		s := l.store([]size{large(), middle(), small(), large(), middle()}[i%5])
		lots[len(planned(t, s, bestOf(s)))]++
	}
	for n := range lot.MaxLots + 1 {
		if lots[n] < 10 {
			t.Error("by how many lots are sold:", lots)
		}
	}
}

// TestP65BestFull: plans of the greatest stores.
func TestP65BestFull(t *testing.T) {
	l := &luck{13}
	lots := map[int]int{}
	for range 40 {
		s := l.full()
		lots[len(planned(t, s, bestOf(s)))]++
	}
	if lots[1]+lots[2] < 5 || lots[3] < 5 {
		t.Error("by how many lots are sold:", lots)
	}
}

// TestP65Earns: what plans bring, and lists that are no plan.
func TestP65Earns(t *testing.T) {
	for i, x := range []struct {
		plan [][]int
		want int
		e    api.Errno
	}{
		{nil, 0, api.OK},
		{[][]int{{4, 6, 0}}, 60, api.OK},
		{[][]int{{0, 0, 0}, {0, 0, 0}}, 0, api.OK},
		{[][]int{{0, 4, 0}, {4, 2, 3}}, 24, api.OK},
		{[][]int{{4, 2, 3}, {0, 4, 0}}, 24, api.OK},
		{[][]int{{0, 4, 0}, {0, 2, 0}}, 24, api.OK},
		{[][]int{{0, 4, 0}, {0, 3, 0}}, 0, api.ErrWrong},
		{[][]int{{1, 0, 0}, {4, 0, 0}}, 0, api.ErrWrong},
		{[][]int{{0, 6, 2}, {0, 0, 2}}, 0, api.ErrWrong},
		{[][]int{{0, 6, 0}, {0, 7, 0}}, 0, api.ErrRange},
		{[][]int{{0, 6, 0}, {0, -6, 0}}, 0, api.ErrRange},
		{[][]int{{0, 6, 0}, {0, 6, math.MaxInt}}, 0, api.ErrRange},
		{[][]int{{0, 6, 0}, {0, 6}}, 0, api.ErrCount},
		{[][]int{nil, {0, 6, 0}}, 0, api.ErrCount},
		// one lot after the other
		{[][]int{{0, 7, 0}, {0, 6}}, 0, api.ErrRange},
		{[][]int{{0, 6}, {0, 7, 0}}, 0, api.ErrCount},
		{[][]int{{0, 7}, {0, 7, 0}}, 0, api.ErrCount},
		{[][]int{{0, 7, 0}, {0, 6, 0}, {0, 0, 0}}, 0, api.ErrCount},
		{[][]int{{0, 0, 0}, {0, 0, 0}, {0, 0, 0}}, 0, api.ErrCount},
		{make([][]int, 1000), 0, api.ErrCount},
	} {
		if n, e := lot.Earns(examples(), x.plan); n != x.want || e != x.e {
			t.Error(i, n, e)
		}
	}
	none := examples()
	none.Lots = 0
	n, e := lot.Earns(none, nil)
	m, f := lot.Earns(none, [][]int{{0, 0, 0}})
	if n != 0 || e != api.OK || m != 0 || f != api.ErrCount {
		t.Error(n, e, m, f)
	}
}

// TestP65BoundExamples: the chapter's examples, prices at their limits, and what are no prices.
func TestP65BoundExamples(t *testing.T) {
	for i, x := range []struct {
		prices []int
		want   int
		e      api.Errno
	}{
		{list(5, 7, 0), 62, api.OK},
		{list(6, 6, 0), 0, api.ErrWrong},
		{list(6, 6, 6), 78, api.OK},
		{list(4, 7, 0), 0, api.ErrWrong},
		{list(0, 10, 0), 60, api.OK},
		{list(0, 9, 0), 0, api.ErrWrong},
		{list(0, 0, 0), 0, api.ErrWrong},
		{list(100, 100, 100), 1300, api.OK},
		{list(0, 100, 0), 600, api.OK},
		{list(0, 101, 0), 0, api.ErrRange},
		{list(101, 0, 0), 0, api.ErrRange},
		{list(0, 0, -1), 0, api.ErrRange},
		{list(math.MaxInt, math.MinInt, 0), 0, api.ErrRange},
		{list(0, 101), 0, api.ErrCount},
		{list(0, 0, 0, 0), 0, api.ErrCount},
		{nil, 0, api.ErrCount},
		{make([]int, 1000), 0, api.ErrCount},
	} {
		if n, e := lot.Bound(examples(), x.prices); n != x.want || e != x.e {
			t.Error(i, n, e)
		}
	}
	// How many lots can be sold makes nothing of it: prices bound each lot.
	none := examples()
	none.Lots = 0
	if n, e := lot.Bound(none, list(6, 6, 0)); n != 0 || e != api.ErrWrong {
		t.Error(n, e)
	}
	none.Grades = nil
	if n, e := lot.Bound(none, list(0, 0, 0)); n != 0 || e != api.OK {
		t.Error(n, e)
	}
}

// TestP65Bound holds prices against all lots of stores.
func TestP65Bound(t *testing.T) {
	l := &luck{11}
	bounds, close := 0, 0
	for i := range 600 {
		s := l.store([]size{middle(), small(), large()}[i%3])
		var prices []int
		for range s.Pickings {
			prices = append(prices, max(l.from(-30, lot.MaxPrice), 0))
		}
		least := 0
		parts(stock(s), func(sacks []int) {
			_, brings := sureOf(s, sacks)
			least = min(least, cost(sacks, prices)-brings)
		})
		// Nearly as much more for each sack as some lot brings too much.
		for i := range prices {
			prices[i] = min(prices[i]+l.below(1-least)/2, lot.MaxPrice)
		}
		fits := true
		parts(stock(s), func(sacks []int) {
			_, brings := sureOf(s, sacks)
			fits = fits && brings <= cost(sacks, prices)
		})
		n, e := lot.Bound(s, prices)
		if fits && (n != cost(stock(s), prices) || e != api.OK) || !fits && (n != 0 || e != api.ErrWrong) {
			t.Fatal(s, prices, fits, n, e)
		}
		bounds += count(fits)
		close += count(!fits)
	}
	if bounds < 100 || close < 100 {
		t.Error("prices that bound, and that do not:", bounds, close)
	}
}

// TestP65OneSack: one penny less for a picking whose sacks alone bring what they cost does not bound any more.
func TestP65OneSack(t *testing.T) {
	s := lot.Store{Pickings: []lot.Picking{{Sacks: 6}, {Sacks: 2, Worst: 2}, {Sacks: 1}}, Grades: []lot.Grade{{0, 50}, {20, 40}}}
	// The lot 6, 1, 1 brings 320, by 30 less than its clean sacks alone.
	for _, x := range []struct {
		prices []int
		e      api.Errno
	}{
		{list(50, 0, 50), api.OK},
		{list(49, 100, 50), api.ErrWrong},
		{list(50, 100, 49), api.ErrWrong},
	} {
		n, e := lot.Bound(s, x.prices)
		if e != x.e || e == api.OK && n != 350 {
			t.Error(x, n, e)
		}
	}
}
