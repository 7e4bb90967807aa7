package fee_test

import (
	"math"
	"testing"

	"laystall/api"
	"laystall/fee"
)

// TestP101Check asks each number of a tariff at its limits, and one beyond them, and all numbers of steps.
func TestP101Check(t *testing.T) {
	for i, x := range []struct {
		number func(t []fee.Step) *int
		limits api.Span
	}{
		{func(t []fee.Step) *int { return &t[0].Upto }, api.Span{Lo: 1, Hi: 20000}},
		{func(t []fee.Step) *int { return &t[1].Upto }, api.Span{Lo: 1, Hi: 20000}},
		{func(t []fee.Step) *int { return &t[0].Pence }, api.Span{Lo: 0, Hi: 500}},
		{func(t []fee.Step) *int { return &t[1].Pence }, api.Span{Lo: 0, Hi: 500}},
	} {
		for _, n := range list(x.limits.Lo, x.limits.Hi, x.limits.Lo-1, x.limits.Hi+1, math.MinInt, math.MaxInt) {
			some := tariff()
			*x.number(some) = n
			want := api.OK
			switch {
			case n < x.limits.Lo || n > x.limits.Hi:
				want = api.ErrRange
			case some[1].Upto <= some[0].Upto:
				want = api.ErrOrder
			}
			if e := fee.CheckTariff(some); e != want {
				t.Error(i, n, e)
			}
		}
	}
	for n := range 7 {
		var some []fee.Step
		for i := range n {
			some = append(some, step(10*i+10, 7))
		}
		want := api.OK
		if n < 1 || n > 4 {
			want = api.ErrCount
		}
		if e := fee.CheckTariff(some); e != want {
			t.Error(n, "steps:", e)
		}
	}
}

// TestP101Order goes through all tariffs of three steps with a few numbers: each Upto is greater than the one before it.
func TestP101Order(t *testing.T) {
	for a := 1; a <= 4; a++ {
		for b := 1; b <= 4; b++ {
			for c := 1; c <= 4; c++ {
				want := api.ErrOrder
				if a < b && b < c {
					want = api.OK
				}
				if e := fee.CheckTariff(steps(step(a, 3), step(b, 2), step(c, 1))); e != want {
					t.Error(a, b, c, e)
				}
			}
		}
	}
}

// TestP101Cost goes through all pounds of some tariffs, pound by pound.
func TestP101Cost(t *testing.T) {
	l := &luck{1}
	parts, free := 0, 0
	for range 60 {
		some := l.tariff()
		for n, want := range costsOf(some) {
			got, e := fee.Cost(some, n)
			if got != want || e != api.OK {
				t.Fatal(some, n, got, want, e)
			}
			parts += count(n*some[0].Pence%100 > 0)
			free += count(n > 0 && got == 0)
		}
	}
	if parts < 10000 || free < 1000 {
		t.Error("costs that were rounded up, and pounds that cost nothing:", parts, free)
	}
}

// TestP101Steps asks for pounds at the ends of steps, and behind the last one.
func TestP101Steps(t *testing.T) {
	four := steps(step(1, 500), step(2, 0), step(250, 1), step(19999, 100))
	for _, x := range []struct {
		t         []fee.Step
		pounds, n int
	}{
		{tariff(), 0, 0},
		{tariff(), 1000, 500},
		{tariff(), 1250, 575},
		{tariff(), 1251, 576},
		{tariff(), 4000, 1400},
		{four, 1, 5},
		{four, 2, 5},
		{four, 3, 6},
		{four, 102, 6},
		{four, 103, 7},
		{four, 250, 8},
		{four, 251, 9},
		{four, 252, 10},
		{four, 19999, 19757},
		{four, 20000, 19758},
		{steps(step(20000, 500)), 20000, 100000},
		{steps(step(1, 500)), 20000, 100000},
		{steps(step(1, 0), step(20000, 1)), 20000, 200},
		{steps(step(1, 0), step(20000, 1)), 1, 0},
		{steps(step(1, 0), step(20000, 1)), 2, 1},
	} {
		if n, e := fee.Cost(x.t, x.pounds); n != x.n || e != api.OK {
			t.Error(x, n, e)
		}
	}
}

// TestP101Pounds asks how many pounds cost at most so many pence: all that some number of pounds costs, one more and one less.
func TestP101Pounds(t *testing.T) {
	l := &luck{2}
	less, most := 0, 0
	for range 60 {
		some := l.tariff()
		costs := costsOf(some)
		for range 100 {
			pence := max(costs[l.some(0, 20000)]+l.from(-1, 1), 0)
			want := 0
			for n, cost := range costs {
				if cost <= pence {
					want = n
				}
			}
			got, e := fee.Pounds(some, pence)
			if got != want || e != api.OK {
				t.Fatal(some, pence, got, want, e)
			}
			less += count(costs[got] < pence && got < 20000)
			most += count(got == 20000)
		}
	}
	if less < 500 || most < 500 {
		t.Error("pence of which some are left, and pence for all pounds:", less, most)
	}
}

// TestP101Edges asks for pounds and pence at their limits and beyond.
func TestP101Edges(t *testing.T) {
	free := steps(step(7, 0), step(9, 100))
	for _, x := range []struct {
		t        []fee.Step
		pence, n int
		e        api.Errno
	}{
		{tariff(), 575, 1250, api.OK},
		{tariff(), 0, 0, api.OK},
		{tariff(), -1, 0, api.ErrRange},
		{tariff(), math.MinInt, 0, api.ErrRange},
		{tariff(), math.MaxInt, 20000, api.OK},
		{tariff(), 6199, 19996, api.OK},
		{tariff(), 6200, 20000, api.OK},
		{free, 0, 7, api.OK},
		{free, 1, 8, api.OK},
		{free, -1, 0, api.ErrRange},
		{steps(step(20000, 0)), 0, 20000, api.OK},
		{steps(step(20000, 1)), 0, 0, api.OK},
		{steps(step(1, 500)), 4, 0, api.OK},
		{steps(step(1, 500)), 5, 1, api.OK},
		{nil, -1, 0, api.ErrCount},
		{steps(step(0, 0)), -1, 0, api.ErrRange},
		{steps(step(2, 0), step(2, 0)), -1, 0, api.ErrOrder},
	} {
		if n, e := fee.Pounds(x.t, x.pence); n != x.n || e != x.e {
			t.Error(x, n, e)
		}
	}
	for _, n := range list(-1, 20001, math.MinInt, math.MaxInt) {
		if cost, e := fee.Cost(tariff(), n); cost != 0 || e != api.ErrRange {
			t.Error(n, cost, e)
		}
	}
}
