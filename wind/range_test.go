package wind_test

import (
	"math"
	"math/rand"
	"slices"
	"testing"

	"klister/api"
	"klister/wind"
)

// two is the range of the chapter's first example; with a wind that changes it is that of the fifth.
func two(changes bool) wind.Range {
	r := wind.Range{Radius: 2, Unit: 2, Clicks: 1, Total: 2, Group: []int{1, 2, 1}, Drifts: []int{0, 3}, First: []int{1, 1}, Next: [][]int{{2, 0}, {0, 2}}}
	if changes {
		r.Next = [][]int{{1, 1}, {1, 1}}
	}
	return r
}

// great is a range with the most of all, at the upper ends.
func great() wind.Range {
	r := wind.Range{Radius: 200, Unit: 20, Clicks: 6, Total: 12, Group: make([]int, 21), Drifts: []int{300, -300, 0, 150, -150}, First: []int{12, 0, 0, 0, 0}}
	for i := range r.Group {
		r.Group[i] = 4
	}
	r.Group[0], r.Group[20] = 12, 12
	r.Next = [][]int{{0, 0, 0, 0, 12}, {3, 3, 2, 2, 2}, {12, 0, 0, 0, 0}, {0, 6, 6, 0, 0}, {2, 3, 2, 3, 2}}
	return r
}

// little is a range with the least of all: one state, one weight, and no click.
func little() wind.Range {
	return wind.Range{Unit: 1, Total: 1, Group: []int{1}, Drifts: []int{0}, First: []int{1}, Next: [][]int{{1}}}
}

// callsOfRange calls each function that has the errors of Check, with other
// arguments that it refuses too, and returns what each returns, and whether all
// else is zero.
func callsOfRange(r wind.Range) (errors []api.Errno, zero bool) {
	chances, e1 := wind.Chances(r)
	hit, e2 := wind.Hit(r, -1, 99)
	expected, e3 := wind.Expected(r, 99)
	best, misses, e4 := wind.Best(r)
	worst, most, e5 := wind.Worst(r, nil, 99)
	robust, least, e6 := wind.Robust(r, nil)
	against, e7 := wind.Against(r, nil)
	shown, e8 := wind.Shows(r, nil, nil)
	bad := wind.Rules{Miss: -1}
	values, e9 := wind.Values(r, bad)
	proved, e10 := wind.Proves(r, bad, nil)
	choice, e11 := wind.Choose(r, bad, -1, -1, -1, 99)
	play, e12 := wind.Follow(r, bad, nil, nil)
	click, e13 := wind.Zero(r, make([]int, 21))
	zero = len(chances)+len(worst)+len(against)+len(values) == 0 && best == 0 && robust == 0 && click == 0
	for _, x := range []api.Ratio{hit, expected, misses, most, least, shown, proved} {
		zero = zero && x == q(0, 0)
	}
	zero = zero && choice == wind.Choice{} && play == wind.Play{}
	return []api.Errno{wind.Check(r), wind.CheckRules(r, bad), e1, e2, e3, e4, e5, e6, e7, e8, e9, e10, e11, e12, e13}, zero
}

// P4.1: ranges at the ends of what is allowed.
func TestCheckAllows(t *testing.T) {
	for i, change := range []func(r *wind.Range){
		func(r *wind.Range) {},
		func(r *wind.Range) { *r = great() },
		func(r *wind.Range) { *r = little() },
		func(r *wind.Range) { r.Radius = 0 },
		func(r *wind.Range) { r.Radius = 200 },
		func(r *wind.Range) { r.Unit = 1 },
		func(r *wind.Range) { r.Unit = 20 },
		func(r *wind.Range) { r.Clicks = 0 },
		func(r *wind.Range) { r.Clicks = 6 },
		func(r *wind.Range) { r.Drifts = []int{-300, 300} },
		func(r *wind.Range) { r.Drifts = []int{3, 3} },
		func(r *wind.Range) { r.Group = []int{100} },
		func(r *wind.Range) { r.Group = []int{0, 100, 0} },
		func(r *wind.Range) { r.Group = []int{0, 0, 1} },
		func(r *wind.Range) { r.Group = []int{97, 2, 1} },
		func(r *wind.Range) { r.First = []int{0, 2} },
		func(r *wind.Range) {
			r.Total, r.First, r.Next = 12, []int{12, 0}, [][]int{{0, 12}, {5, 7}}
		},
	} {
		r := two(false)
		change(&r)
		if e := wind.Check(r); e != api.OK {
			t.Error(i, e)
		}
		if _, _, e := wind.Best(r); e != api.OK {
			t.Error(i, e)
		}
	}
}

// refusedRanges are changes of a range that make it invalid, and their errors.
var refusedRanges = []struct {
	change func(r *wind.Range)
	want   api.Errno
}{
	{func(r *wind.Range) { *r = wind.Range{} }, api.ErrCount},
	{func(r *wind.Range) { r.Group = nil }, api.ErrCount},
	{func(r *wind.Range) { r.Group = []int{1, 1} }, api.ErrCount},
	{func(r *wind.Range) { r.Group = make([]int, 20) }, api.ErrCount},
	{func(r *wind.Range) { r.Group = make([]int, 22) }, api.ErrCount},
	{func(r *wind.Range) { r.Group = append(make([]int, 22), 1) }, api.ErrCount},
	{func(r *wind.Range) { r.Drifts, r.First, r.Next = nil, nil, nil }, api.ErrCount},
	{func(r *wind.Range) {
		r.Drifts, r.First, r.Next = make([]int, 6), []int{2, 0, 0, 0, 0, 0}, slices.Repeat([][]int{{2, 0, 0, 0, 0, 0}}, 6)
	}, api.ErrCount},
	{func(r *wind.Range) { r.Drifts = []int{0} }, api.ErrCount},
	{func(r *wind.Range) { r.Drifts = []int{0, 3, 0} }, api.ErrCount},
	{func(r *wind.Range) { r.First = nil }, api.ErrCount},
	{func(r *wind.Range) { r.First = []int{2} }, api.ErrCount},
	{func(r *wind.Range) { r.First = []int{1, 1, 0} }, api.ErrCount},
	{func(r *wind.Range) { r.Next = nil }, api.ErrCount},
	{func(r *wind.Range) { r.Next = r.Next[:1] }, api.ErrCount},
	{func(r *wind.Range) { r.Next = append(r.Next, []int{1, 1}) }, api.ErrCount},
	{func(r *wind.Range) { r.Next[0] = nil }, api.ErrCount},
	{func(r *wind.Range) { r.Next[0] = []int{2} }, api.ErrCount},
	{func(r *wind.Range) { r.Next[1] = []int{1, 1, 0} }, api.ErrCount},
	{func(r *wind.Range) { r.Next[1] = []int{2}; r.Radius = -1 }, api.ErrCount},
	{func(r *wind.Range) { r.Group = []int{-1, 0}; r.First[0] = 9 }, api.ErrCount},
	{func(r *wind.Range) { r.Radius = -1 }, api.ErrRange},
	{func(r *wind.Range) { r.Radius = 201 }, api.ErrRange},
	{func(r *wind.Range) { r.Radius = math.MinInt }, api.ErrRange},
	{func(r *wind.Range) { r.Radius = math.MaxInt }, api.ErrRange},
	{func(r *wind.Range) { r.Unit = 0 }, api.ErrRange},
	{func(r *wind.Range) { r.Unit = -2 }, api.ErrRange},
	{func(r *wind.Range) { r.Unit = 21 }, api.ErrRange},
	{func(r *wind.Range) { r.Unit = math.MaxInt }, api.ErrRange},
	{func(r *wind.Range) { r.Clicks = -1 }, api.ErrRange},
	{func(r *wind.Range) { r.Clicks = 7 }, api.ErrRange},
	{func(r *wind.Range) { r.Clicks = math.MaxInt }, api.ErrRange},
	{func(r *wind.Range) { r.Clicks = math.MinInt }, api.ErrRange},
	{func(r *wind.Range) { r.Total = 0; r.First, r.Next = []int{0, 0}, [][]int{{0, 0}, {0, 0}} }, api.ErrRange},
	{func(r *wind.Range) { r.Total = 13; r.First, r.Next = []int{13, 0}, [][]int{{13, 0}, {1, 12}} }, api.ErrRange},
	{func(r *wind.Range) { r.Total = -1 }, api.ErrRange},
	{func(r *wind.Range) { r.Total = math.MaxInt }, api.ErrRange},
	{func(r *wind.Range) { r.Drifts[0] = -301 }, api.ErrRange},
	{func(r *wind.Range) { r.Drifts[1] = 301 }, api.ErrRange},
	{func(r *wind.Range) { r.Drifts[1] = math.MinInt }, api.ErrRange},
	{func(r *wind.Range) { r.Group[0] = -1 }, api.ErrRange},
	{func(r *wind.Range) { r.Group[2] = 101 }, api.ErrRange},
	{func(r *wind.Range) { r.Group = []int{math.MaxInt, 2, math.MaxInt} }, api.ErrRange},
	{func(r *wind.Range) { r.First = []int{3, -1} }, api.ErrRange},
	{func(r *wind.Range) { r.First = []int{3, 0} }, api.ErrRange},
	{func(r *wind.Range) { r.First = []int{math.MaxInt, math.MaxInt} }, api.ErrRange},
	{func(r *wind.Range) { r.Next[1] = []int{-1, 3} }, api.ErrRange},
	{func(r *wind.Range) { r.Next[0] = []int{3, 0} }, api.ErrRange},
	{func(r *wind.Range) { r.Next[0] = []int{2, -1} }, api.ErrRange},
	{func(r *wind.Range) { r.Next[1] = []int{math.MinInt, 0} }, api.ErrRange},
	{func(r *wind.Range) { r.Group = []int{0}; r.Radius = 201 }, api.ErrRange},
	{func(r *wind.Range) { r.First = []int{0, 0}; r.Next[1][1] = 3 }, api.ErrRange},
	{func(r *wind.Range) { r.Group = []int{0} }, api.ErrConflict},
	{func(r *wind.Range) { r.Group = []int{0, 0, 0} }, api.ErrConflict},
	{func(r *wind.Range) { r.Group = []int{98, 2, 1} }, api.ErrConflict},
	{func(r *wind.Range) { r.Group = []int{100, 100, 100} }, api.ErrConflict},
	{func(r *wind.Range) { r.First = []int{0, 0} }, api.ErrConflict},
	{func(r *wind.Range) { r.First = []int{1, 0} }, api.ErrConflict},
	{func(r *wind.Range) { r.First = []int{2, 1} }, api.ErrConflict},
	{func(r *wind.Range) { r.Next[0] = []int{0, 1} }, api.ErrConflict},
	{func(r *wind.Range) { r.Next[1] = []int{2, 2} }, api.ErrConflict},
	{func(r *wind.Range) { r.Total = 3 }, api.ErrConflict},
}

// P4.1: what is not allowed, and which error is first, in all calls with these errors.
func TestCheckRefuses(t *testing.T) {
	for i, x := range refusedRanges {
		r := two(false)
		x.change(&r)
		errors, zero := callsOfRange(r)
		if !zero || slices.ContainsFunc(errors, func(e api.Errno) bool { return e != x.want }) {
			t.Error(i, errors, zero, x.want)
		}
	}
}

// P4.1: the chances of states of a few winds, by hand.
func TestChances(t *testing.T) {
	fades, three := two(false), great()
	fades.First, fades.Next = []int{2, 0}, [][]int{{1, 1}, {0, 2}}
	half := []api.Ratio{q(1, 2), q(1, 2)}
	three.Drifts, three.First, three.Next = []int{1, 2, 3}, []int{12, 0, 0}, [][]int{{0, 12, 0}, {0, 0, 12}, {4, 4, 4}}
	for i, x := range []struct {
		r    wind.Range
		want [][]api.Ratio
	}{
		{two(false), [][]api.Ratio{half, half, half, half, half}},
		{two(true), [][]api.Ratio{half, half, half, half, half}},
		{little(), [][]api.Ratio{{q(1, 1)}, {q(1, 1)}, {q(1, 1)}, {q(1, 1)}, {q(1, 1)}}},
		{fades, [][]api.Ratio{{q(1, 1), q(0, 1)}, {q(1, 2), q(1, 2)}, {q(1, 4), q(3, 4)}, {q(1, 8), q(7, 8)}, {q(1, 16), q(15, 16)}}},
		{three, [][]api.Ratio{{q(1, 1), q(0, 1), q(0, 1)}, {q(0, 1), q(1, 1), q(0, 1)}, {q(0, 1), q(0, 1), q(1, 1)}, {q(1, 3), q(1, 3), q(1, 3)}, {q(1, 9), q(4, 9), q(4, 9)}}},
	} {
		got, e := wind.Chances(x.r)
		if e != api.OK || !slices.EqualFunc(got, x.want, slices.Equal) {
			t.Error(i, got, e)
		}
	}
}

// P4.1: the chances of states are those of all winds, step by step.
func TestChancesOfAllWinds(t *testing.T) {
	g := rand.New(rand.NewSource(1))
	for i := range 150 {
		r := someRange(g, 1+i%5)
		got, e := wind.Chances(r)
		if want := slowChances(r); e != api.OK || !slices.EqualFunc(got, want, slices.Equal) {
			t.Fatal(r, got, want, e)
		}
	}
	got, e := wind.Chances(great())
	if want := slowChances(great()); e != api.OK || !slices.EqualFunc(got, want, slices.Equal) {
		t.Error(got, want, e)
	}
}
