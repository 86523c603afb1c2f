package wind_test

import (
	"math"
	"math/rand"
	"slices"
	"testing"

	"klister/api"
	"klister/wind"
)

// P4.6: example 6 of the chapter, the ends of what is allowed, and what is refused.
func TestDrift(t *testing.T) {
	for i, x := range []struct {
		flags   []api.Span
		weights []int
		want    api.Span
		e       api.Errno
	}{
		{[]api.Span{span(10, 20), span(-5, 5)}, []int{3, 1}, span(25, 65), api.OK},
		{[]api.Span{span(10, 20), span(-5, 5)}, []int{0, 2}, span(-10, 10), api.OK},
		{[]api.Span{span(-20, -10)}, []int{3}, span(-60, -30), api.OK},
		{[]api.Span{span(10, 20)}, []int{0}, span(0, 0), api.OK},
		{[]api.Span{span(7, 7)}, []int{1}, span(7, 7), api.OK},
		{slices.Repeat([]api.Span{span(-1000, 1000)}, 6), slices.Repeat([]int{100}, 6), span(-600000, 600000), api.OK},
		{[]api.Span{span(1000, 1000), span(-1000, -1000)}, []int{100, 100}, span(0, 0), api.OK},
		{nil, nil, span(0, 0), api.ErrCount},
		{nil, []int{1}, span(0, 0), api.ErrCount},
		{make([]api.Span, 7), make([]int, 7), span(0, 0), api.ErrCount},
		{make([]api.Span, 2), make([]int, 1), span(0, 0), api.ErrCount},
		{make([]api.Span, 2), make([]int, 3), span(0, 0), api.ErrCount},
		{make([]api.Span, 1), nil, span(0, 0), api.ErrCount},
		{[]api.Span{span(1, 0)}, []int{-1, 1}, span(0, 0), api.ErrCount},
		{[]api.Span{span(0, 0), span(1, 0)}, []int{1, 1}, span(0, 0), api.ErrRange},
		{[]api.Span{span(-1001, 0)}, []int{1}, span(0, 0), api.ErrRange},
		{[]api.Span{span(0, 1001)}, []int{1}, span(0, 0), api.ErrRange},
		{[]api.Span{span(1001, 1001)}, []int{1}, span(0, 0), api.ErrRange},
		{[]api.Span{span(-1001, -1001)}, []int{1}, span(0, 0), api.ErrRange},
		{[]api.Span{span(math.MinInt, math.MaxInt)}, []int{1}, span(0, 0), api.ErrRange},
		{[]api.Span{span(math.MaxInt, math.MinInt)}, []int{1}, span(0, 0), api.ErrRange},
		{[]api.Span{span(0, 0), span(0, 0)}, []int{1, 101}, span(0, 0), api.ErrRange},
		{[]api.Span{span(0, 0), span(0, 0)}, []int{-1, 1}, span(0, 0), api.ErrRange},
		{[]api.Span{span(2, 3)}, []int{math.MaxInt}, span(0, 0), api.ErrRange},
		{[]api.Span{span(2, 3)}, []int{math.MinInt}, span(0, 0), api.ErrRange},
	} {
		if got, e := wind.Drift(x.flags, x.weights); got != x.want || e != x.e {
			t.Error(i, got, e)
		}
	}
}

// P4.6: the span has its ends where all that flags can say has the least and the greatest sum.
func TestDriftOfAllFlags(t *testing.T) {
	g := rand.New(rand.NewSource(5))
	for range 200 {
		var flags []api.Span
		var weights []int
		for range 1 + g.Intn(4) {
			lo := g.Intn(9) - 4
			flags, weights = append(flags, span(lo, lo+g.Intn(4))), append(weights, g.Intn(4))
		}
		want := span(math.MaxInt, math.MinInt)
		eachCase(flags, func(said []int) {
			n := 0
			for i, x := range said {
				n += weights[i] * x
			}
			want = span(min(want.Lo, n), max(want.Hi, n))
		})
		if got, e := wind.Drift(flags, weights); got != want || e != api.OK {
			t.Fatal(flags, weights, got, want, e)
		}
	}
}

// P4.6: example 6 of the chapter, which click of those with as many hits, and what is refused.
func TestZero(t *testing.T) {
	for i, x := range []struct {
		r       wind.Range
		impacts []int
		want    int
		e       api.Errno
	}{
		{two(false), []int{4, 5, -1}, 0, api.OK},
		{two(false), []int{4, 4, -1}, -1, api.OK},
		{two(false), []int{-4, -3, 9}, 1, api.OK},
		{two(false), []int{-4, 4}, -1, api.OK},
		{two(false), []int{-4, -4, 4}, 1, api.OK},
		{two(false), []int{9, -9}, 0, api.OK},
		{two(false), nil, 0, api.OK},
		{steady(0, 0), []int{6}, -3, api.OK},
		{steady(0, 0), []int{-6}, 3, api.OK},
		{steady(0, 0), []int{-6, 6}, -3, api.OK},
		{steady(0, 0), []int{-6, 4}, -2, api.OK},
		{steady(0, 0), []int{-4, 6}, 2, api.OK},
		{steady(0, 0), []int{-2, 6, 6}, -3, api.OK},
		{steady(0, 0), []int{7, 5, 8, -1}, 0, api.OK},
		{little(), []int{1000, -1000}, 0, api.OK},
		{two(false), slices.Repeat([]int{4}, 20), -1, api.OK},
		{two(false), slices.Repeat([]int{4}, 21), 0, api.ErrCount},
		{two(false), slices.Repeat([]int{1001}, 21), 0, api.ErrCount},
		{two(false), []int{4, 1001}, 0, api.ErrRange},
		{two(false), []int{-1001, 4}, 0, api.ErrRange},
		{two(false), []int{4, math.MaxInt}, 0, api.ErrRange},
		{two(false), []int{4, math.MinInt}, 0, api.ErrRange},
	} {
		if got, e := wind.Zero(x.r, x.impacts); got != x.want || e != x.e {
			t.Error(i, got, e)
		}
	}
}

// P4.6: the click with the most hits of all, as in the slow reading.
func TestZeroOfAllClicks(t *testing.T) {
	g := rand.New(rand.NewSource(6))
	for range 1000 {
		r := someRange(g, 1)
		r.Clicks = g.Intn(7)
		var impacts []int
		for range g.Intn(21) {
			impacts = append(impacts, g.Intn(41)-20)
		}
		best, most := 0, -1
		for click := -r.Clicks; click <= r.Clicks; click++ {
			n := 0
			for _, impact := range impacts {
				if hitsOf(r, impact, 0, click) {
					n++
				}
			}
			if n > most || n == most && far(click) < far(best) {
				best, most = click, n
			}
		}
		if got, e := wind.Zero(r, impacts); got != best || e != api.OK {
			t.Fatal(r, impacts, got, best, e)
		}
	}
}
