package relay_test

import (
	"math"
	"math/rand"
	"slices"
	"testing"

	"klister/api"
	"klister/relay"
)

// span returns the span from lo to hi.
func span(lo, hi int) api.Span { return api.Span{Lo: lo, Hi: hi} }

// P8.7: the fifth example, and cases at equal times.
func TestChances(t *testing.T) {
	for i, x := range []struct {
		ends, want []api.Span
	}{
		{[]api.Span{span(100, 200), span(150, 300), span(250, 260)}, []api.Span{span(1, 2), span(1, 3), span(2, 3)}},
		{[]api.Span{span(5, 5), span(5, 5), span(5, 5)}, []api.Span{span(1, 1), span(1, 1), span(1, 1)}},
		{[]api.Span{span(5, 6), span(6, 7), span(4, 5)}, []api.Span{span(1, 2), span(2, 3), span(1, 1)}},
		{[]api.Span{span(0, 10), span(0, 10)}, []api.Span{span(1, 2), span(1, 2)}},
		{[]api.Span{span(3, 9)}, []api.Span{span(1, 1)}},
		{[]api.Span{span(-7, -7), span(-9, -8)}, []api.Span{span(2, 2), span(1, 1)}},
		{[]api.Span{span(math.MinInt, math.MaxInt), span(math.MaxInt, math.MaxInt), span(math.MinInt, math.MinInt)}, []api.Span{span(1, 2), span(2, 3), span(1, 1)}},
		{nil, nil},
		{[]api.Span{}, nil},
	} {
		if got, e := relay.Chances(x.ends); !slices.Equal(got, x.want) || e != api.OK {
			t.Error(i, got, e)
		}
	}
}

// P8.7: what are no spans, and too many of them.
func TestChancesErrors(t *testing.T) {
	for i, x := range []struct {
		ends []api.Span
		e    api.Errno
	}{
		{make([]api.Span, 40), api.OK},
		{make([]api.Span, 41), api.ErrCount},
		{slices.Repeat([]api.Span{span(1, 0)}, 41), api.ErrCount},
		{slices.Repeat([]api.Span{span(1, 0)}, 40), api.ErrRange},
		{[]api.Span{span(0, 5), span(6, 5)}, api.ErrRange},
		{[]api.Span{span(math.MaxInt, math.MinInt)}, api.ErrRange},
	} {
		if got, e := relay.Chances(x.ends); e != x.e || len(got) > 0 && e != api.OK {
			t.Error(i, got, e)
		}
	}
}

// P8.7 and P8.8: over all times at which the teams can end, the places reach
// from the best to the worst one, and both are reached.
func TestRandomChances(t *testing.T) {
	g := rand.New(rand.NewSource(6))
	for range 2000 {
		var ends []api.Span
		for range 1 + g.Intn(5) {
			lo := g.Intn(6)
			ends = append(ends, span(lo, lo+g.Intn(4)))
		}
		if got, e := relay.Chances(ends); !slices.Equal(got, chancesOf(ends)) || e != api.OK {
			t.Fatal(ends, got, e)
		}
	}
}

// P8.7: as many teams as there may be, each a tenth later than the one before.
func TestManyChances(t *testing.T) {
	var ends, want []api.Span
	for k := range 40 {
		ends = append(ends, span(k, k+1))
		want = append(want, span(max(1, k), min(k+1, 40)))
	}
	if got, e := relay.Chances(ends); !slices.Equal(got, want) || e != api.OK {
		t.Error(got, e)
	}
}
