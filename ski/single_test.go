package ski_test

import (
	"math"
	"math/rand"
	"slices"
	"testing"

	"klister/api"
	"klister/ski"
)

// six returns the single skis of the chapter's example 5.
func six() []int { return []int{50, 20, 41, 23, 60, 38} }

// isPairing reports whether each of n skis occurs once in pairs.
func isPairing(n int, pairs [][2]int) bool {
	var all []int
	for _, p := range pairs {
		all = append(all, p[0], p[1])
	}
	slices.Sort(all)
	return slices.Equal(all, upTo(n))
}

// P5.6: example 5 of the chapter, skis that are as stiff as each other, and the ends of what is allowed.
func TestMatchAndGaps(t *testing.T) {
	for i, x := range []struct {
		stiff []int
		cost  int
	}{
		{six(), 16},
		{[]int{7, 7}, 0},
		{[]int{0, 100000}, 100000},
		{[]int{100000, 0}, 100000},
		{[]int{1, 5, 5, 9}, 8},
		{[]int{5, 5, 5, 5, 6, 6}, 0},
		{[]int{5, 5, 5, 6, 6, 6}, 1},
		{[]int{6, 5, 6, 5, 6, 5}, 1},
		{[]int{0, 1, 2, 3, 4, 5, 6, 7, 8, 9, 10, 11, 12, 13, 14, 15}, 8},
		{make([]int, 16), 0},
		{slices.Repeat([]int{0, 100000}, 7), 100000},
	} {
		pairs, n, e := ski.Match(x.stiff)
		if n != x.cost || e != api.OK || !isPairing(len(x.stiff), pairs) || slowCost(x.stiff, pairs) != n {
			t.Error(i, pairs, n, e)
		}
		if n, e := ski.Cost(x.stiff, pairs); n != x.cost || e != api.OK {
			t.Error(i, n, e)
		}
		gaps, e := ski.Gaps(x.stiff)
		if e != api.OK || len(gaps) > ski.MaxSingles || !areGaps(x.stiff, gaps) {
			t.Error(i, gaps, e)
		}
		if n, e := ski.GapsShow(x.stiff, gaps); n != x.cost || e != api.OK {
			t.Error(i, gaps, n, e)
		}
	}
}

// singleErrors returns the errors of all functions of single skis, the other
// arguments of which are refused with errors that come later.
func singleErrors(stiff []int) []api.Errno {
	_, _, e := ski.Match(stiff)
	return []api.Errno{
		e, second(ski.Gaps(stiff)),
		second(ski.Cost(stiff, [][2]int{{-1, 99}})),
		second(ski.Cost(stiff, nil)),
		second(ski.GapsShow(stiff, []api.Span{span(1, 0)})),
		second(ski.GapsShow(stiff, make([]api.Span, 17))),
	}
}

// P5.6: what is refused of single skis, and which of several errors comes first, in all functions of them.
func TestSinglesRefuse(t *testing.T) {
	for i, x := range []struct {
		stiff []int
		e     api.Errno
	}{
		{nil, api.ErrCount},
		{[]int{}, api.ErrCount},
		{[]int{1}, api.ErrCount},
		{[]int{1, 2, 3}, api.ErrCount},
		{make([]int, 15), api.ErrCount},
		{make([]int, 17), api.ErrCount},
		{make([]int, 18), api.ErrCount},
		{[]int{-1, 2, 3}, api.ErrCount},
		{slices.Repeat([]int{100001}, 18), api.ErrCount},
		{[]int{1, 100001}, api.ErrRange},
		{[]int{-1, 1}, api.ErrRange},
		{[]int{1, 2, 3, -1}, api.ErrRange},
		{[]int{math.MaxInt, 1}, api.ErrRange},
		{[]int{1, math.MinInt}, api.ErrRange},
	} {
		for k, e := range singleErrors(x.stiff) {
			if e != x.e {
				t.Error(i, k, e)
			}
		}
	}
}

// P5.6: what a pairing costs, and what is refused.
func TestCost(t *testing.T) {
	for i, x := range []struct {
		pairs [][2]int
		want  int
		e     api.Errno
	}{
		{[][2]int{{1, 3}, {2, 5}, {0, 4}}, 16, api.OK},
		{[][2]int{{4, 0}, {3, 1}, {5, 2}}, 16, api.OK},
		{[][2]int{{0, 1}, {2, 3}, {4, 5}}, 70, api.OK},
		{[][2]int{{0, 5}, {1, 4}, {2, 3}}, 70, api.OK},
		{nil, 0, api.ErrCount},
		{[][2]int{{0, 1}, {2, 3}}, 0, api.ErrCount},
		{[][2]int{{0, 1}, {2, 3}, {4, 5}, {0, 1}}, 0, api.ErrCount},
		{[][2]int{{0, 0}, {2, 6}}, 0, api.ErrCount},
		{[][2]int{{0, 1}, {2, 3}, {4, 6}}, 0, api.ErrUnknown},
		{[][2]int{{0, 1}, {2, 3}, {6, 4}}, 0, api.ErrUnknown},
		{[][2]int{{0, 1}, {2, 3}, {4, -1}}, 0, api.ErrUnknown},
		{[][2]int{{-1, 1}, {2, 3}, {4, 5}}, 0, api.ErrUnknown},
		{[][2]int{{0, 0}, {0, 0}, {0, 6}}, 0, api.ErrUnknown},
		{[][2]int{{0, 1}, {math.MinInt, 3}, {4, 5}}, 0, api.ErrUnknown},
		{[][2]int{{0, 1}, {2, math.MaxInt}, {4, 5}}, 0, api.ErrUnknown},
		{[][2]int{{0, 1}, {2, 3}, {4, 4}}, 0, api.ErrTwice},
		{[][2]int{{0, 1}, {0, 3}, {4, 5}}, 0, api.ErrTwice},
		{[][2]int{{0, 1}, {2, 3}, {4, 0}}, 0, api.ErrTwice},
		{[][2]int{{0, 0}, {0, 0}, {0, 0}}, 0, api.ErrTwice},
		{[][2]int{{0, 1}, {2, 5}, {5, 4}}, 0, api.ErrTwice},
	} {
		if got, e := ski.Cost(six(), x.pairs); got != x.want || e != x.e {
			t.Error(i, got, e)
		}
	}
}

// P5.6: what gaps show of any list of spans, and what is refused.
func TestGapsShow(t *testing.T) {
	for i, x := range []struct {
		gaps []api.Span
		want int
		e    api.Errno
	}{
		{[]api.Span{span(20, 23), span(38, 41), span(50, 60)}, 16, api.OK},
		{[]api.Span{span(20, 23), span(50, 60)}, 13, api.OK},
		{[]api.Span{span(21, 23), span(38, 40)}, 4, api.OK},
		{[]api.Span{span(52, 58)}, 6, api.OK},
		{[]api.Span{span(21, 22)}, 1, api.OK},
		{nil, 0, api.OK},
		{[]api.Span{}, 0, api.OK},
		{[]api.Span{span(50, 55), span(55, 60)}, 10, api.OK},
		{[]api.Span{span(50, 54), span(56, 60)}, 8, api.OK},
		{[]api.Span{span(50, 51), span(51, 52), span(52, 53), span(53, 54), span(54, 55), span(55, 56), span(56, 57), span(57, 58), span(58, 59), span(59, 60)}, 10, api.OK},
		{[]api.Span{span(50, 56), span(55, 60)}, 0, api.ErrWrong},
		{[]api.Span{span(50, 60), span(50, 60)}, 0, api.ErrWrong},
		{[]api.Span{span(23, 38)}, 0, api.ErrWrong},
		{[]api.Span{span(41, 50)}, 0, api.ErrWrong},
		{[]api.Span{span(19, 23)}, 0, api.ErrWrong},
		{[]api.Span{span(20, 24)}, 0, api.ErrWrong},
		{[]api.Span{span(20, 20)}, 0, api.ErrWrong},
		{[]api.Span{span(22, 21)}, 0, api.ErrWrong},
		{[]api.Span{span(20, 38)}, 0, api.ErrWrong},
		{[]api.Span{span(20, 41)}, 0, api.ErrWrong},
		{[]api.Span{span(38, 41), span(20, 23)}, 0, api.ErrWrong},
		{[]api.Span{span(61, 70)}, 0, api.ErrWrong},
		{[]api.Span{span(60, 70)}, 0, api.ErrWrong},
		{[]api.Span{span(0, 20)}, 0, api.ErrWrong},
		{[]api.Span{span(math.MinInt, math.MaxInt)}, 0, api.ErrWrong},
		{[]api.Span{span(math.MaxInt, math.MinInt)}, 0, api.ErrWrong},
		{[]api.Span{span(20, math.MaxInt)}, 0, api.ErrWrong},
		{[]api.Span{span(math.MinInt, 23)}, 0, api.ErrWrong},
		{make([]api.Span, 16), 0, api.ErrWrong},
		{make([]api.Span, 17), 0, api.ErrCount},
	} {
		if got, e := ski.GapsShow(six(), x.gaps); got != x.want || e != x.e {
			t.Error(i, got, e)
		}
	}
}

// P5.6: as many spans as there can be.
func TestGapsShowMost(t *testing.T) {
	var gaps []api.Span
	for n := range 17 {
		gaps = append(gaps, span(n, n+1))
	}
	stiff := []int{0, 100}
	if got, e := ski.GapsShow(stiff, gaps[:16]); got != 16 || e != api.OK {
		t.Error(got, e)
	}
	if got, e := ski.GapsShow(stiff, gaps); got != 0 || e != api.ErrCount {
		t.Error(got, e)
	}
}

// P5.6 and P5.7: no pairing costs less than the one that is returned, of all of them, as gaps show.
func TestMatchOfAll(t *testing.T) {
	g := rand.New(rand.NewSource(17))
	for range 300 {
		stiff := someSingles(g, 8)
		least := slowMatch(stiff)
		pairs, n, e := ski.Match(stiff)
		if n != least || e != api.OK || !isPairing(len(stiff), pairs) || slowCost(stiff, pairs) != n {
			t.Fatal(stiff, pairs, n, least, e)
		}
		gaps, e := ski.Gaps(stiff)
		if shown, f := ski.GapsShow(stiff, gaps); shown != least || !areGaps(stiff, gaps) || e != api.OK || f != api.OK {
			t.Fatal(stiff, gaps, shown, e, f)
		}
		all := pairings(upTo(len(stiff)))
		some := all[g.Intn(len(all))]
		if n, e := ski.Cost(stiff, some); n != slowCost(stiff, some) || e != api.OK {
			t.Fatal(stiff, some, n, e)
		}
	}
}

// P5.6: one span and two spans between all numbers, as in the slow reading.
func TestGapsShowAllSpans(t *testing.T) {
	g := rand.New(rand.NewSource(18))
	for range 40 {
		stiff := someSingles(g, 6)
		least := slowMatch(stiff)
		for range 400 {
			var gaps []api.Span
			for range 1 + g.Intn(2) {
				gaps = append(gaps, span(g.Intn(23)-1, g.Intn(23)-1))
			}
			sum := 0
			wrong := api.ErrWrong
			if areGaps(stiff, gaps) {
				wrong = api.OK
				for _, s := range gaps {
					sum += s.Hi - s.Lo
				}
			}
			if got, e := ski.GapsShow(stiff, gaps); got != sum || e != wrong || sum > least {
				t.Fatal(stiff, gaps, got, e)
			}
		}
	}
}
