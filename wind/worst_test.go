package wind_test

import (
	"math"
	"math/big"
	"math/rand"
	"slices"
	"testing"

	"klister/api"
	"klister/wind"
)

// five are winds with the same span at each shot.
func five(lo, hi int) []api.Span { return slices.Repeat([]api.Span{span(lo, hi)}, 5) }

// with returns winds with another span at a shot.
func with(winds []api.Span, shot, lo, hi int) []api.Span {
	l := slices.Clone(winds)
	l[shot] = span(lo, hi)
	return l
}

// isCase reports whether drifts are a case of winds.
func isCase(winds []api.Span, drifts []int) bool {
	for k, d := range drifts {
		if d < winds[k].Lo || d > winds[k].Hi {
			return false
		}
	}
	return len(drifts) == 5
}

// P4.3: example 3 of the chapter, and other winds.
func TestWorst(t *testing.T) {
	mixed := []api.Span{span(0, 0), span(0, 0), span(3, 3), span(3, 3), span(2, 3)}
	for i, x := range []struct {
		winds  []api.Span
		misses [3]api.Ratio
		robust int
	}{
		{five(0, 3), [3]api.Ratio{q(5, 4), q(15, 4), q(5, 1)}, -1},
		{five(0, 0), [3]api.Ratio{q(5, 4), q(0, 1), q(5, 4)}, 0},
		{five(3, 3), [3]api.Ratio{q(0, 1), q(15, 4), q(5, 1)}, -1},
		{five(-3, -3), [3]api.Ratio{q(5, 1), q(15, 4), q(0, 1)}, 1},
		{five(-3, 3), [3]api.Ratio{q(5, 1), q(15, 4), q(5, 1)}, 0},
		{five(-1, 1), [3]api.Ratio{q(15, 4), q(0, 1), q(15, 4)}, 0},
		{five(-300, 300), [3]api.Ratio{q(5, 1), q(5, 1), q(5, 1)}, 0},
		{five(300, 300), [3]api.Ratio{q(5, 1), q(5, 1), q(5, 1)}, 0},
		{mixed, [3]api.Ratio{q(1, 2), q(9, 4), q(7, 2)}, -1},
		// Both sides are as bad, and the middle is worse: the click below 0.
		{[]api.Span{span(3, 3), span(-3, -3), span(5, 5), span(-5, -5), span(9, 9)}, [3]api.Ratio{q(15, 4), q(9, 2), q(15, 4)}, -1},
	} {
		for click := -1; click <= 1; click++ {
			drifts, n, e := wind.Worst(two(false), x.winds, click)
			if n != x.misses[click+1] || e != api.OK || !isCase(x.winds, drifts) || ratioOf(slowCase(two(false), drifts, click)) != n {
				t.Error(i, click, drifts, n, e)
			}
		}
		click, n, e := wind.Robust(two(true), x.winds)
		if click != x.robust || n != x.misses[click+1] || e != api.OK {
			t.Error(i, click, n, e)
		}
	}
}

// callsOfWinds calls each function that has the errors of winds, with other
// arguments that it refuses too, and returns what each returns, and whether all
// else is zero.
func callsOfWinds(r wind.Range, winds []api.Span) (errors []api.Errno, zero bool) {
	worst, most, e1 := wind.Worst(r, winds, 9)
	click, least, e2 := wind.Robust(r, winds)
	against, e3 := wind.Against(r, winds)
	shown, e4 := wind.Shows(r, winds, [][]int{nil, {math.MaxInt, 0, 0, 0, 0}})
	zero = len(worst)+len(against) == 0 && click == 0 && most == q(0, 0) && least == most && shown == most
	return []api.Errno{e1, e2, e3, e4}, zero
}

// P4.3: winds that are not allowed.
func TestWindsRefused(t *testing.T) {
	for i, x := range []struct {
		winds []api.Span
		want  api.Errno
	}{
		{nil, api.ErrCount},
		{five(0, 3)[1:], api.ErrCount},
		{append(five(0, 3), span(0, 3)), api.ErrCount},
		{five(3, 0)[1:], api.ErrCount},
		{append(five(0, 3), span(-301, 0)), api.ErrCount},
		{with(five(0, 3), 4, 1, 0), api.ErrRange},
		{with(five(0, 3), 0, 0, -1), api.ErrRange},
		{with(five(0, 3), 2, 300, -300), api.ErrRange},
		{with(five(0, 3), 4, -301, 0), api.ErrRange},
		{with(five(0, 3), 0, 0, 301), api.ErrRange},
		{with(five(0, 3), 1, -301, -301), api.ErrRange},
		{with(five(0, 3), 3, 301, 301), api.ErrRange},
		{with(five(0, 3), 3, math.MinInt, math.MaxInt), api.ErrRange},
		{with(five(0, 3), 3, math.MaxInt, math.MinInt), api.ErrRange},
		{with(five(0, 3), 3, 0, math.MaxInt), api.ErrRange},
		{with(five(0, 3), 3, math.MinInt, 0), api.ErrRange},
	} {
		errors, zero := callsOfWinds(two(false), x.winds)
		if !zero || slices.ContainsFunc(errors, func(e api.Errno) bool { return e != x.want }) {
			t.Error(i, errors, zero)
		}
	}
	for _, click := range []int{-2, 2, math.MinInt, math.MaxInt} {
		if drifts, n, e := wind.Worst(two(false), five(0, 3), click); len(drifts) > 0 || n != q(0, 0) || e != api.ErrRange {
			t.Error(click, drifts, n, e)
		}
	}
}

// P4.3: the witnesses of the program show what its robust click has, and others as much or less.
func TestAgainst(t *testing.T) {
	for i, winds := range [][]api.Span{five(0, 3), five(0, 0), five(-3, 3), five(-300, 300), with(five(1, 2), 3, -9, -7)} {
		_, n, _ := wind.Robust(two(false), winds)
		against, e := wind.Against(two(false), winds)
		shown, f := wind.Shows(two(false), winds, against)
		if len(against) != 3 || shown != n || e != api.OK || f != api.OK {
			t.Error(i, against, shown, n, e, f)
		}
		for _, drifts := range against {
			if !isCase(winds, drifts) {
				t.Error(i, against)
			}
		}
	}
	against, e := wind.Against(great(), five(-300, 300))
	shown, f := wind.Shows(great(), five(-300, 300), against)
	if len(against) != 13 || shown != q(5, 1) || e != api.OK || f != api.OK {
		t.Error(against, shown, e, f)
	}
}

// P4.3: what any witnesses show, and those that are none.
func TestShows(t *testing.T) {
	zero, three := make([]int, 5), []int{3, 3, 3, 3, 3}
	for i, x := range []struct {
		witnesses [][]int
		want      api.Ratio
		e         api.Errno
	}{
		{[][]int{zero, three, three}, q(5, 4), api.OK},
		{[][]int{zero, zero, three}, q(0, 1), api.OK},
		{[][]int{three, three, three}, q(0, 1), api.OK},
		{[][]int{zero, three, zero}, q(5, 4), api.OK},
		{[][]int{{0, 0, 0, 0, 3}, three, three}, q(1, 1), api.OK},
		{[][]int{{0, 3, 0, 3, 0}, {3, 2, 1, 0, 3}, {0, 0, 1, 1, 2}}, q(3, 4), api.OK},
		{[][]int{{0, 0, 0, 0, 0}, {1, 2, 2, 1, 3}, {0, 0, 1, 1, 2}}, q(5, 4), api.OK},
		{[][]int{{0, 0, 0, 0, 0}, {1, 2, 2, 1, 2}, {0, 0, 1, 1, 2}}, q(3, 4), api.OK},
		{nil, q(0, 0), api.ErrCount},
		{[][]int{zero, three}, q(0, 0), api.ErrCount},
		{[][]int{zero, three, three, three}, q(0, 0), api.ErrCount},
		{[][]int{zero, three, three[1:]}, q(0, 0), api.ErrCount},
		{[][]int{zero, nil, three}, q(0, 0), api.ErrCount},
		{[][]int{{0, 0, 0, 0, 0, 0}, three, three}, q(0, 0), api.ErrCount},
		{[][]int{{9, 9, 9, 9, 9}, three, three[1:]}, q(0, 0), api.ErrCount},
		{[][]int{zero, three, {3, 3, 3, 3, 4}}, q(0, 0), api.ErrWrong},
		{[][]int{{-1, 0, 0, 0, 0}, three, three}, q(0, 0), api.ErrWrong},
		{[][]int{zero, {3, 3, math.MaxInt, 3, 3}, three}, q(0, 0), api.ErrWrong},
		{[][]int{zero, {3, 3, 3, math.MinInt, 3}, three}, q(0, 0), api.ErrWrong},
	} {
		if got, e := wind.Shows(two(false), five(0, 3), x.witnesses); got != x.want || e != x.e {
			t.Error(i, got, e)
		}
	}
	// Each drift lies in the span of its own shot.
	winds := []api.Span{span(0, 0), span(1, 1), span(2, 2), span(3, 3), span(-4, -4)}
	own, other := []int{0, 1, 2, 3, -4}, []int{1, 0, 2, 3, -4}
	for i, x := range []struct {
		witnesses [][]int
		want      api.Ratio
		e         api.Errno
	}{
		{[][]int{own, own, own}, q(5, 4), api.OK},
		{[][]int{own, own, other}, q(0, 0), api.ErrWrong},
		{[][]int{other, own, own}, q(0, 0), api.ErrWrong},
	} {
		if got, e := wind.Shows(two(false), winds, x.witnesses); got != x.want || e != x.e {
			t.Error(i, got, e)
		}
	}
}

// P4.3, P4.7, P0.5: the worst wind is that of all cases, and never better than one of them.
func TestWorstOfAllCases(t *testing.T) {
	g := rand.New(rand.NewSource(4))
	for range 200 {
		r, winds := someRange(g, 1+g.Intn(2)), someWinds(g)
		worst := map[int]*big.Rat{}
		for click := -r.Clicks; click <= r.Clicks; click++ {
			worst[click] = slowWorst(r, winds, click)
			drifts, n, e := wind.Worst(r, winds, click)
			if n != ratioOf(worst[click]) || e != api.OK || !isCase(winds, drifts) || ratioOf(slowCase(r, drifts, click)) != n {
				t.Fatal(r, winds, click, drifts, n, e)
			}
		}
		best, least := slowLeast(r, func(click int) *big.Rat { return worst[click] })
		click, n, e := wind.Robust(r, winds)
		if click != best || n != ratioOf(least) || e != api.OK {
			t.Fatal(r, winds, click, n, best, least, e)
		}
		against, e := wind.Against(r, winds)
		shown, f := wind.Shows(r, winds, against)
		if shown != n || e != api.OK || f != api.OK {
			t.Fatal(r, winds, against, shown, n, e, f)
		}
		checkShows(t, g, r, winds)
	}
}

// checkShows compares what some witnesses show with the slow reading.
func checkShows(t *testing.T, g *rand.Rand, r wind.Range, winds []api.Span) {
	t.Helper()
	var witnesses [][]int
	least := rat(5, 1)
	for click := -r.Clicks; click <= r.Clicks; click++ {
		var drifts []int
		for _, s := range winds {
			drifts = append(drifts, s.Lo+g.Intn(s.Hi-s.Lo+1))
		}
		witnesses = append(witnesses, drifts)
		if n := slowCase(r, drifts, click); n.Cmp(least) < 0 {
			least = n
		}
	}
	if shown, e := wind.Shows(r, winds, witnesses); shown != ratioOf(least) || e != api.OK {
		t.Fatal(r, winds, witnesses, shown, least, e)
	}
}
