package ski_test

import (
	"math"
	"math/rand"
	"slices"
	"testing"

	"klister/api"
	"klister/ski"
)

// P5.2: examples 1 and 3 of the chapter, shorter chains than others, chains from a ski to itself, and what is refused.
func TestChain(t *testing.T) {
	ring := lab(8, run(0, 1, 1), run(1, 2, 1), run(2, 3, 1), run(3, 4, 1), run(4, 5, 1), run(5, 6, 1), run(6, 7, 1), run(7, 0, 1))
	for i, x := range []struct {
		l          ski.Lab
		fast, slow int
		want       []int
		e          api.Errno
	}{
		{four(), 0, 2, []int{0, 2}, api.OK},
		{four(), 0, 1, []int{0}, api.OK},
		{four(), 0, 3, []int{3}, api.OK},
		{four(), 1, 2, []int{2}, api.OK},
		{four(), 2, 0, nil, api.ErrNone},
		{four(), 1, 3, nil, api.ErrNone},
		{four(), 3, 1, nil, api.ErrNone},
		{four(), 0, 0, nil, api.ErrNone},
		{four(run(0, 2, 6)), 0, 2, []int{4}, api.OK},
		{four(run(0, 2, 5)), 0, 2, []int{0, 2}, api.OK},
		{four(run(2, 0, -6)), 0, 2, []int{4}, api.OK},
		{round(), 0, 0, []int{0, 2, 4}, api.OK},
		{round(), 1, 1, []int{2, 4, 0}, api.OK},
		{round(), 2, 3, []int{4, 3}, api.OK},
		{round(), 3, 3, nil, api.ErrNone},
		{ring, 0, 7, []int{0, 1, 2, 3, 4, 5, 6}, api.OK},
		{ring, 3, 3, []int{3, 4, 5, 6, 7, 0, 1, 2}, api.OK},
		{ring, 0, 8, nil, api.ErrUnknown},
		{four(), 4, 0, nil, api.ErrUnknown},
		{four(), 0, 4, nil, api.ErrUnknown},
		{four(), -1, 0, nil, api.ErrUnknown},
		{four(), 3, -1, nil, api.ErrUnknown},
		{four(), math.MaxInt, math.MinInt, nil, api.ErrUnknown},
		{lab(1), 0, 0, nil, api.ErrNone},
	} {
		if got, e := ski.Chain(x.l, x.fast, x.slow); !slices.Equal(got, x.want) || e != x.e {
			t.Error(i, got, e)
		}
	}
}

// P5.2: chains of the fewest runs between all skis, as in the slow reading.
func TestChainOfAllSkis(t *testing.T) {
	g := rand.New(rand.NewSource(2))
	for range 1000 {
		l := someLab(g, 1+g.Intn(8), 20)
		for a := range l.Skis {
			for b := range l.Skis {
				fewest := runsTo(l, a, b)
				chain, e := ski.Chain(l, a, b)
				if len(chain) != fewest || fewest == 0 && e != api.ErrNone || fewest > 0 && (e != api.OK || !isChain(l, a, b, chain)) {
					t.Fatal(l, a, b, chain, fewest, e)
				}
			}
		}
	}
}

// P5.2: of any list of runs it is said whether it is a chain; and what is refused.
func TestChainShows(t *testing.T) {
	for i, x := range []struct {
		l          ski.Lab
		fast, slow int
		chain      []int
		want       bool
		e          api.Errno
	}{
		{four(), 0, 2, []int{0, 2}, true, api.OK},
		{four(), 0, 2, []int{2, 0}, false, api.OK},
		{four(), 0, 2, []int{0, 1}, false, api.OK},
		{four(), 0, 2, []int{0}, false, api.OK},
		{four(), 0, 2, []int{2}, false, api.OK},
		{four(), 0, 2, nil, false, api.OK},
		{four(), 0, 0, nil, false, api.OK},
		{four(), 1, 2, []int{1}, false, api.OK},
		{four(), 1, 2, []int{2}, true, api.OK},
		{four(), 2, 1, []int{2}, false, api.OK},
		{four(), 0, 3, []int{3}, true, api.OK},
		{four(), 0, 2, []int{0, 2, 2}, false, api.OK},
		{four(run(0, 2, 6)), 0, 2, []int{0, 2}, true, api.OK},
		{four(run(0, 2, 6)), 0, 2, []int{4}, true, api.OK},
		{round(), 0, 0, []int{0, 2, 4}, true, api.OK},
		{round(), 0, 0, []int{0, 2, 4, 0, 2, 4}, true, api.OK},
		{round(), 1, 2, []int{2, 4, 0, 2}, true, api.OK},
		{round(), 1, 2, []int{2, 4, 0, 2, 4}, false, api.OK},
		{round(), 2, 2, []int{0, 2, 4}, false, api.OK},
		{round(), 0, 0, slices.Repeat([]int{0, 2, 4}, 1000), true, api.OK},
		{lab(2), 0, 1, nil, false, api.OK},
		{lab(2), 0, 1, []int{0}, false, api.ErrUnknown},
		{four(), 0, 2, []int{0, 4}, false, api.ErrUnknown},
		{four(), 0, 2, []int{-1}, false, api.ErrUnknown},
		{four(), 0, 2, []int{2, 1, math.MinInt}, false, api.ErrUnknown},
		{four(), 0, 2, []int{math.MaxInt, 2}, false, api.ErrUnknown},
		{four(), 4, 2, []int{0}, false, api.ErrUnknown},
		{four(), 0, 4, []int{0}, false, api.ErrUnknown},
		{four(), -1, 2, nil, false, api.ErrUnknown},
		{four(), 0, -1, nil, false, api.ErrUnknown},
		{lab(8, run(0, 1, 1)), 0, 8, []int{0}, false, api.ErrUnknown},
	} {
		if got, e := ski.ChainShows(x.l, x.fast, x.slow, x.chain); got != x.want || e != x.e {
			t.Error(i, got, e)
		}
	}
}

// P5.2: all lists of up to four runs, as in the slow reading.
func TestChainShowsAllLists(t *testing.T) {
	g := rand.New(rand.NewSource(3))
	for range 100 {
		l := someLab(g, 2+g.Intn(3), 5)
		var try func(list []int)
		try = func(list []int) {
			for a := range l.Skis {
				for b := range l.Skis {
					want := len(list) > 0 && isChain(l, a, b, list)
					if got, e := ski.ChainShows(l, a, b, list); got != want || e != api.OK {
						t.Fatal(l, a, b, list, got, e)
					}
				}
			}
			if len(list) == 4 {
				return
			}
			for k := range l.Runs {
				try(append(list, k))
			}
		}
		try(nil)
	}
}

// isRound reports whether runs are a round: a chain from the ski that the first one shows to be faster to itself.
func isRound(l ski.Lab, list []int) bool {
	if len(list) == 0 {
		return false
	}
	first, _, _ := shownBy(l, l.Runs[list[0]])
	is, e := ski.ChainShows(l, first, first, list)
	return is && e == api.OK && isChain(l, first, first, list)
}

// P5.2: a round, or none, and the fewest runs to drop: example 3 of the chapter, runs that
// count several times, several rounds, and none.
func TestRoundAndDrop(t *testing.T) {
	for i, x := range []struct {
		l    ski.Lab
		drop int
		e    api.Errno
	}{
		{four(), 0, api.ErrNone},
		{round(), 1, api.OK},
		{lab(1), 0, api.ErrNone},
		{lab(8), 0, api.ErrNone},
		{four(run(2, 0, 5)), 0, api.ErrNone},
		{four(run(2, 0, 7), run(0, 3, -7)), 2, api.OK},
		{four(run(2, 0, 7), run(2, 0, 8)), 1, api.OK},
		{four(run(2, 0, 7), run(2, 0, 8), run(0, 1, 6), run(1, 2, 6)), 2, api.OK},
		{lab(2, run(0, 1, 1), run(0, 1, -1), run(1, 0, 1)), 1, api.OK},
		{lab(2, slices.Concat(many(20, run(0, 1, 1)), many(20, run(1, 0, 1)))...), 20, api.OK},
		{lab(2, slices.Concat(many(21, run(0, 1, 1)), many(19, run(1, 0, 1)))...), 19, api.OK},
		{lab(6, run(0, 1, 1), run(1, 0, 1), run(2, 3, 1), run(3, 2, 1), run(4, 5, 1), run(5, 4, 1)), 3, api.OK},
		{lab(8, run(0, 1, 1), run(1, 2, 1), run(2, 3, 1), run(3, 4, 1), run(4, 5, 1), run(5, 6, 1), run(6, 7, 1), run(7, 0, 1)), 1, api.OK},
		{lab(8, run(5, 6, 1), run(6, 7, 1), run(7, 5, 1)), 1, api.OK},
	} {
		list, e := ski.Round(x.l)
		if e != x.e || e == api.OK && !isRound(x.l, list) || e != api.OK && len(list) > 0 {
			t.Error(i, list, e)
		}
		drop, e := ski.Drop(x.l)
		if len(drop) != x.drop || e != api.OK || contradictory(without(x.l, drop)) || !rising(drop) {
			t.Error(i, drop, e)
		}
	}
	if drop, _ := ski.Drop(round()); len(drop) != 1 || !slices.Contains([]int{0, 2, 4}, drop[0]) {
		t.Error(drop)
	}
}

// rising reports whether a list is strictly increasing.
func rising(list []int) bool {
	return slices.IsSorted(list) && len(slices.Compact(slices.Clone(list))) == len(list)
}

// P5.2: rounds and the fewest runs to drop, as in the slow reading of all sets of runs.
func TestRoundAndDropOfAllSets(t *testing.T) {
	g := rand.New(rand.NewSource(4))
	rounds := 0
	for range 1000 {
		l := someLab(g, 2+g.Intn(5), 9)
		want := api.ErrNone
		if contradictory(l) {
			want = api.OK
			rounds++
		}
		list, e := ski.Round(l)
		if e != want || e == api.OK && !isRound(l, list) {
			t.Fatal(l, list, e)
		}
		drop, e := ski.Drop(l)
		if len(drop) != slowDrop(l) || e != api.OK || contradictory(without(l, drop)) || !rising(drop) {
			t.Fatal(l, drop, e)
		}
	}
	if rounds < 100 {
		t.Error(rounds)
	}
}

// P5.2: as many skis and runs as there can be: without the runs to drop the others do not contradict
// each other, and each of them has to be dropped.
func TestDropOfManyRuns(t *testing.T) {
	g := rand.New(rand.NewSource(5))
	for range 50 {
		l := lab(8)
		for range 40 {
			a := g.Intn(8)
			l.Runs = append(l.Runs, run(a, (a+1+g.Intn(7))%8, 1))
		}
		drop, e := ski.Drop(l)
		if e != api.OK || contradictory(without(l, drop)) || !rising(drop) {
			t.Fatal(l, drop, e)
		}
		for i := range drop {
			if kept := slices.Concat(drop[:i], drop[i+1:]); !contradictory(without(l, kept)) {
				t.Fatal(l, drop, i)
			}
		}
	}
}
