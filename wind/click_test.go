package wind_test

import (
	"math"
	"math/big"
	"math/rand"
	"testing"

	"klister/api"
	"klister/wind"
)

// P4.2: example 1 of the chapter, both ends of the target, and the errors of Hit in their order.
func TestHit(t *testing.T) {
	// Six clicks bring the drift 300 to 180, and the impacts to 179, 180 and 181.
	edge := two(false)
	edge.Radius, edge.Unit, edge.Clicks, edge.Drifts = 180, 20, 6, []int{300, -300}
	skew := two(false)
	skew.Group, skew.Radius = []int{1, 0, 0, 2, 3}, 1
	zero := two(false)
	zero.Radius = 0
	for i, x := range []struct {
		r            wind.Range
		state, click int
		want         api.Ratio
		e            api.Errno
	}{
		{two(false), 0, 0, q(1, 1), api.OK},
		{two(false), 1, 0, q(1, 4), api.OK},
		{two(false), 0, -1, q(3, 4), api.OK},
		{two(false), 1, -1, q(1, 1), api.OK},
		{two(false), 0, 1, q(3, 4), api.OK},
		{two(false), 1, 1, q(0, 1), api.OK},
		{two(true), 1, 0, q(1, 4), api.OK},
		{edge, 0, -6, q(3, 4), api.OK},
		{edge, 1, 6, q(3, 4), api.OK},
		{edge, 0, 6, q(0, 1), api.OK},
		{edge, 1, -6, q(0, 1), api.OK},
		{skew, 0, 0, q(1, 3), api.OK},
		{skew, 0, -1, q(5, 6), api.OK},
		{skew, 0, 1, q(1, 6), api.OK},
		{skew, 1, -1, q(1, 6), api.OK},
		{zero, 0, 0, q(1, 2), api.OK},
		{zero, 1, -1, q(1, 4), api.OK},
		{zero, 0, 1, q(0, 1), api.OK},
		{two(false), 2, 0, q(0, 0), api.ErrUnknown},
		{two(false), -1, 0, q(0, 0), api.ErrUnknown},
		{two(false), 2, 2, q(0, 0), api.ErrUnknown},
		{two(false), math.MinInt, math.MaxInt, q(0, 0), api.ErrUnknown},
		{two(false), math.MaxInt, 0, q(0, 0), api.ErrUnknown},
		{two(false), 0, 2, q(0, 0), api.ErrRange},
		{two(false), 0, -2, q(0, 0), api.ErrRange},
		{two(false), 1, math.MaxInt, q(0, 0), api.ErrRange},
		{two(false), 1, math.MinInt, q(0, 0), api.ErrRange},
		{little(), 0, 1, q(0, 0), api.ErrRange},
	} {
		if got, e := wind.Hit(x.r, x.state, x.click); got != x.want || e != x.e {
			t.Error(i, got, e)
		}
	}
}

// P4.2: example 2 of the chapter, and a wind that goes over to its other state.
func TestExpected(t *testing.T) {
	fades := two(false)
	fades.First, fades.Next = []int{2, 0}, [][]int{{1, 1}, {0, 2}}
	for i, x := range []struct {
		r     wind.Range
		click int
		want  api.Ratio
		e     api.Errno
	}{
		{two(false), -1, q(5, 8), api.OK},
		{two(false), 0, q(15, 8), api.OK},
		{two(false), 1, q(25, 8), api.OK},
		{two(true), -1, q(5, 8), api.OK},
		{two(true), 0, q(15, 8), api.OK},
		{two(true), 1, q(25, 8), api.OK},
		// The state 0 has the chances 1, 1/2, 1/4, 1/8 and 1/16: 31/16 in all, the state 1 49/16.
		{fades, -1, q(31, 64), api.OK},
		{fades, 0, q(147, 64), api.OK},
		{fades, 1, q(227, 64), api.OK},
		{little(), 0, q(0, 1), api.OK},
		{two(false), 2, q(0, 0), api.ErrRange},
		{two(false), -2, q(0, 0), api.ErrRange},
		{little(), -1, q(0, 0), api.ErrRange},
		{two(false), math.MaxInt, q(0, 0), api.ErrRange},
		{two(false), math.MinInt, q(0, 0), api.ErrRange},
	} {
		if got, e := wind.Expected(x.r, x.click); got != x.want || e != x.e {
			t.Error(i, got, e)
		}
	}
}

// P4.2: the best click, and which one of those that are as good.
func TestBest(t *testing.T) {
	for i, x := range []struct {
		r     wind.Range
		click int
		want  api.Ratio
	}{
		{two(false), -1, q(5, 8)},
		{two(true), -1, q(5, 8)},
		{little(), 0, q(0, 1)},
		{steady(0, 1), 0, q(0, 1)},
		{steady(1, 1), 0, q(0, 1)},
		{steady(2, 1), -1, q(0, 1)},
		{steady(-3, 1), 1, q(0, 1)},
		{steady(6, 1), -3, q(0, 1)},
		{steady(-7, 1), 3, q(0, 1)},
		// Nothing hits: all are as good, the click 0 is the nearest one.
		{steady(20, 1), 0, q(5, 1)},
		{steady(-20, 1), 0, q(5, 1)},
		{steady(1, 0), 0, q(5, 1)},
		// The clicks -2 and -1, or 1 and 2, hit: the nearer one.
		{steady(4, 1), -2, q(0, 1)},
		{steady(3, 1), -1, q(0, 1)},
		{steady(-3, 1), 1, q(0, 1)},
		{steady(5, 3), -1, q(0, 1)},
		{steady(-5, 3), 1, q(0, 1)},
		// One half of all shots, on either side: the click below 0, at whatever distance.
		{sides(2, 0), -1, q(5, 2)},
		{sides(4, 0), -2, q(5, 2)},
		{sides(6, 0), -3, q(5, 2)},
		{sides(4, 2), -1, q(5, 2)},
		{sides(4, 4), 0, q(0, 1)},
	} {
		click, got, e := wind.Best(x.r)
		if click != x.click || got != x.want || e != api.OK {
			t.Error(i, click, got, e)
		}
	}
}

// steady is a range with one state, without a group, with the unit 2 and the clicks from -3 to 3.
func steady(drift, radius int) wind.Range {
	r := little()
	r.Radius, r.Unit, r.Clicks, r.Drifts = radius, 2, 3, []int{drift}
	return r
}

// sides is such a range in which one half of all shots goes so far to each side.
func sides(offset, radius int) wind.Range {
	r := steady(0, radius)
	r.Group = make([]int, 2*offset+1)
	r.Group[0], r.Group[2*offset] = 1, 1
	return r
}

// P4.2, P0.5: misses of all winds and clicks, as in the slow reading.
func TestClicksOfAllWinds(t *testing.T) {
	g := rand.New(rand.NewSource(2))
	for i := range 300 {
		r := someRange(g, 1+i%3)
		checkClicks(t, r)
	}
	checkClicks(t, great())
}

func checkClicks(t *testing.T, r wind.Range) {
	t.Helper()
	expected := map[int]*big.Rat{}
	for click := -r.Clicks; click <= r.Clicks; click++ {
		expected[click] = slowExpected(r, click)
		if got, e := wind.Expected(r, click); got != ratioOf(expected[click]) || e != api.OK {
			t.Fatal(r, click, got, expected[click], e)
		}
		for state, drift := range r.Drifts {
			want := plus(rat(1, 1), times(rat(-1, 1), missOf(r, drift, click)))
			if got, e := wind.Hit(r, state, click); got != ratioOf(want) || e != api.OK {
				t.Fatal(r, state, click, got, want, e)
			}
		}
	}
	best, least := slowLeast(r, func(click int) *big.Rat { return expected[click] })
	if click, got, e := wind.Best(r); click != best || got != ratioOf(least) || e != api.OK {
		t.Fatal(r, click, got, best, least, e)
	}
}

// P4.7: a greater radius never makes more misses to be expected.
func TestGreaterRadius(t *testing.T) {
	g := rand.New(rand.NewSource(3))
	less := func(a, b api.Ratio) bool { return a.N*b.D < b.N*a.D }
	for range 300 {
		r := someRange(g, 1+g.Intn(5))
		greater := r
		greater.Radius += 1 + g.Intn(3)
		_, a, _ := wind.Best(r)
		_, b, _ := wind.Best(greater)
		if less(a, b) {
			t.Fatal(r, greater, a, b)
		}
		for click := -r.Clicks; click <= r.Clicks; click++ {
			a, _ := wind.Expected(r, click)
			b, _ := wind.Expected(greater, click)
			if less(a, b) {
				t.Fatal(r, greater, click, a, b)
			}
		}
	}
}
