package ski_test

import (
	"math"
	"math/rand"
	"slices"
	"testing"

	"klister/api"
	"klister/ski"
)

// labErrors returns the errors of all functions of labs, the other arguments of
// which are refused with errors that come later.
func labErrors(l ski.Lab) []api.Errno {
	return []api.Errno{
		ski.Check(l),
		second(ski.Faster(l)),
		second(ski.Chain(l, -1, 99)),
		second(ski.ChainShows(l, 99, -1, []int{99})),
		second(ski.Round(l)),
		second(ski.Drop(l)),
		second(ski.Places(l)),
		second(ski.Orders(l)),
		second(ski.First(l)),
		second(ski.Known(l, 0)),
		second(ski.Fewest(l, 0)),
		second(ski.Worth(l, 0, -1, -1)),
		second(ski.Next(l, 0)),
	}
}

// second returns the second one of two results.
func second[T any](_ T, e api.Errno) api.Errno { return e }

// many returns the same run so many times.
func many(n int, r ski.Run) []ski.Run { return slices.Repeat([]ski.Run{r}, n) }

// P5.1: what is refused, and which of several errors comes first, in all functions of labs.
func TestCheckRefuses(t *testing.T) {
	for i, x := range []struct {
		l ski.Lab
		e api.Errno
	}{
		{lab(0), api.ErrRange},
		{lab(9), api.ErrRange},
		{lab(-1), api.ErrRange},
		{lab(math.MinInt), api.ErrRange},
		{lab(math.MaxInt), api.ErrRange},
		{ski.Lab{Skis: 2, Error: -1}, api.ErrRange},
		{ski.Lab{Skis: 2, Error: 1001}, api.ErrRange},
		{ski.Lab{Skis: 2, Error: math.MinInt}, api.ErrRange},
		{ski.Lab{Skis: 2, Error: math.MaxInt}, api.ErrRange},
		{ski.Lab{Skis: 9, Runs: many(41, run(9, 9, 0))}, api.ErrRange},
		{ski.Lab{Skis: 2, Error: 1001, Runs: many(41, run(0, 1, 1))}, api.ErrRange},
		{ski.Lab{Skis: 2, Error: 1001, Runs: many(1, run(0, 2, 1))}, api.ErrRange},
		{lab(2, many(41, run(0, 1, 1))...), api.ErrCount},
		{lab(2, many(41, run(1, 1, 10001))...), api.ErrCount},
		{lab(2, run(0, 2, 1)), api.ErrUnknown},
		{lab(2, run(2, 0, 1)), api.ErrUnknown},
		{lab(2, run(-1, 0, 1)), api.ErrUnknown},
		{lab(2, run(0, -1, 1)), api.ErrUnknown},
		{lab(2, run(1, 1, 1)), api.ErrUnknown},
		{lab(1, run(0, 0, 0)), api.ErrUnknown},
		{lab(2, run(math.MinInt, 1, 1)), api.ErrUnknown},
		{lab(2, run(0, math.MaxInt, 1)), api.ErrUnknown},
		{lab(2, run(0, 1, 1), run(0, 1, 1), run(0, 0, 1)), api.ErrUnknown},
		{lab(2, run(0, 1, 10001), run(0, 2, 1)), api.ErrUnknown},
		{lab(2, run(0, 1, 10001)), api.ErrRange},
		{lab(2, run(0, 1, -10001)), api.ErrRange},
		{lab(2, run(0, 1, math.MaxInt)), api.ErrRange},
		{lab(2, run(0, 1, math.MinInt)), api.ErrRange},
		{lab(2, run(0, 1, 1), run(1, 0, 1), run(1, 0, 10001)), api.ErrRange},
	} {
		for k, e := range labErrors(x.l) {
			if e != x.e {
				t.Error(i, k, e)
			}
		}
	}
}

// P5.1: what is allowed, up to the ends.
func TestCheckAllows(t *testing.T) {
	for i, l := range []ski.Lab{
		lab(1), lab(8), four(), round(),
		{Skis: 8, Error: 1000, Runs: many(40, run(7, 0, 10000))},
		lab(2, run(1, 0, -10000)),
		lab(2, run(0, 1, 0)),
		{Skis: 3, Runs: []ski.Run{}},
	} {
		if e := ski.Check(l); e != api.OK {
			t.Error(i, e)
		}
	}
}

// P5.1: example 1 of the chapter, what a run shows by a little more than the error, and rounds.
func TestFaster(t *testing.T) {
	for i, x := range []struct {
		l    ski.Lab
		want []ski.Pair
		e    api.Errno
	}{
		{four(), []ski.Pair{{Fast: 0, Slow: 1}, {Fast: 0, Slow: 2}, {Fast: 0, Slow: 3}, {Fast: 1, Slow: 2}}, api.OK},
		{lab(1), nil, api.OK},
		{lab(8), nil, api.OK},
		{lab(2, run(0, 1, 0)), nil, api.OK},
		{lab(2, run(0, 1, 1)), []ski.Pair{{Fast: 0, Slow: 1}}, api.OK},
		{lab(2, run(0, 1, -1)), []ski.Pair{{Fast: 1, Slow: 0}}, api.OK},
		{lab(2, run(1, 0, 1)), []ski.Pair{{Fast: 1, Slow: 0}}, api.OK},
		{lab(2, run(1, 0, 1), run(1, 0, 1)), []ski.Pair{{Fast: 1, Slow: 0}}, api.OK},
		{ski.Lab{Skis: 2, Error: 5, Runs: []ski.Run{run(0, 1, 5)}}, nil, api.OK},
		{ski.Lab{Skis: 2, Error: 5, Runs: []ski.Run{run(0, 1, -5)}}, nil, api.OK},
		{ski.Lab{Skis: 2, Error: 5, Runs: []ski.Run{run(0, 1, 6)}}, []ski.Pair{{Fast: 0, Slow: 1}}, api.OK},
		{ski.Lab{Skis: 2, Error: 5, Runs: []ski.Run{run(0, 1, -6)}}, []ski.Pair{{Fast: 1, Slow: 0}}, api.OK},
		{ski.Lab{Skis: 2, Error: 1000, Runs: []ski.Run{run(0, 1, 1000), run(0, 1, -10000)}}, []ski.Pair{{Fast: 1, Slow: 0}}, api.OK},
		{lab(3, run(1, 0, 1), run(2, 1, 1)), []ski.Pair{{Fast: 1, Slow: 0}, {Fast: 2, Slow: 0}, {Fast: 2, Slow: 1}}, api.OK},
		{lab(3, run(2, 1, 1), run(1, 0, 1)), []ski.Pair{{Fast: 1, Slow: 0}, {Fast: 2, Slow: 0}, {Fast: 2, Slow: 1}}, api.OK},
		{round(), nil, api.ErrConflict},
		{lab(2, run(0, 1, 1), run(0, 1, -1)), nil, api.ErrConflict},
		{ski.Lab{Skis: 2, Error: 1, Runs: []ski.Run{run(0, 1, 2), run(0, 1, -1)}}, []ski.Pair{{Fast: 0, Slow: 1}}, api.OK},
	} {
		if got, e := ski.Faster(x.l); !slices.Equal(got, x.want) || e != x.e {
			t.Error(i, got, e)
		}
	}
}

// P5.1: who is faster than whom, as in the slow reading.
func TestFasterOfAllChains(t *testing.T) {
	g := rand.New(rand.NewSource(1))
	for range 3000 {
		l := someLab(g, 1+g.Intn(8), 14)
		var want []ski.Pair
		wrong := api.OK
		for a := range l.Skis {
			for b := range l.Skis {
				if runsTo(l, a, b) > 0 {
					want = append(want, ski.Pair{Fast: a, Slow: b})
				}
			}
		}
		if contradictory(l) {
			want, wrong = nil, api.ErrConflict
		}
		if got, e := ski.Faster(l); !slices.Equal(got, want) || e != wrong {
			t.Fatal(l, got, want, e)
		}
	}
}
