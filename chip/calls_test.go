package chip_test

import (
	"math"
	"math/rand"
	"reflect"
	"slices"
	"testing"

	"klister/api"
	"klister/chip"
)

// deep returns a race that shares no memory with another one.
func deep(r chip.Race) chip.Race {
	return chip.Race{
		Starts:   slices.Clone(r.Starts),
		Splits:   slices.Clone(r.Splits),
		Clocks:   slices.Clone(r.Clocks),
		Readings: slices.Clone(r.Readings),
	}
}

// anyone returns numbers at which something ends, or that no one would pass.
type anyone struct{ *rand.Rand }

func (g anyone) number() int {
	all := []int{math.MinInt, -100000001, -36001, -36000, -601, -1, 0, 0, 0, 0, 1, 1, 1, 2, 2, 3, 4, 5, 7, 8, 9, 40, 41, 80, 600, 601, 36000, 36001, 360000, 360001, 100000000, math.MaxInt}
	return all[g.Intn(len(all))]
}

// race returns a race that is mostly allowed.
func (g anyone) race() chip.Race {
	r := someRace(g.Rand, 1)
	if g.Intn(4) == 0 {
		r = someLarge(g.Rand, 1)
	}
	switch g.Intn(14) {
	case 0:
		r.Starts[0] = g.number()
	case 1:
		r.Starts = append(r.Starts, make([]int, g.Intn(12))...)
	case 2:
		r.Splits = append(r.Splits, span(g.number(), g.number()))
	case 3:
		r.Splits = append(r.Splits, make([]api.Span, g.Intn(12))...)
	case 4:
		r.Clocks = append(r.Clocks, chip.Clock{Offset: span(g.number(), g.number()), Error: g.number()})
	case 5:
		r.Readings = append(r.Readings, reading(g.number(), g.number(), g.number(), g.number()))
	case 6:
		r.Readings = append(r.Readings, make([]chip.Reading, g.Intn(60))...)
	case 7:
		r.Starts = nil
	}
	return r
}

// spot returns a spot that mostly exists.
func (g anyone) spot() chip.Spot {
	if g.Intn(5) == 0 {
		return at(g.number(), g.number())
	}
	return at(g.Intn(3), g.Intn(3))
}

// chain returns a few steps.
func (g anyone) chain() []chip.Step {
	var chain []chip.Step
	for range g.Intn(5) {
		chain = append(chain, step(chip.Kind(g.Intn(4)), g.Intn(2), g.Intn(2), g.Intn(2) == 0))
	}
	switch g.Intn(6) {
	case 0:
		chain = append(chain, step(chip.Kind(g.number()), g.number(), g.number(), true))
	case 1:
		chain = slices.Repeat(chain, 30)
	}
	return chain
}

// times returns a list of lists that is mostly as a race has to have it.
func (g anyone) times(r chip.Race) ([][]int, []int) {
	times := make([][]int, len(r.Starts))
	for skier := range times {
		times[skier] = make([]int, len(r.Splits)+1)
		times[skier][g.Intn(len(times[skier]))] = g.number()
	}
	offsets := make([]int, len(r.Clocks))
	switch g.Intn(8) {
	case 0:
		times = append(times, nil)
	case 1:
		offsets = append(offsets, g.number())
	}
	return times, offsets
}

// P0.1: no call panics, all end, and beside an error all results are zero (R2).
func TestAllArguments(t *testing.T) {
	g := anyone{rand.New(rand.NewSource(13))}
	zero := func(e api.Errno, results ...int) {
		t.Helper()
		for _, n := range results {
			if e != api.OK && n != 0 {
				t.Fatal("a result beside an error", e, results)
			}
		}
	}
	for range 500 {
		r, s, to, n := g.race(), g.spot(), g.spot(), g.number()
		chip.Check(r)
		times, offsets := g.times(r)
		if fits, e := chip.Fits(r, times, offsets); fits && e != api.OK {
			t.Fatal("a result beside an error", e)
		}
		times, offsets, e := chip.Truth(r)
		zero(e, len(times), len(offsets))
		span, e := chip.Range(r, s)
		zero(e, span.Lo, span.Hi)
		span, e = chip.Gap(r, s, to)
		zero(e, span.Lo, span.Hi)
		span, e = chip.Runs(r, n)
		zero(e, span.Lo, span.Hi)
		times, offsets, e = chip.Reach(r, s, to, n > 0)
		zero(e, len(times), len(offsets))
		chain, e := chip.Chain(r, s, to)
		zero(e, len(chain))
		sum, e := chip.Proves(r, s, to, g.chain())
		zero(e, sum)
		places, e := chip.Places(r, n)
		zero(e, len(places))
		times, offsets, e = chip.Placed(r, s, n > 0)
		zero(e, len(times), len(offsets))
		ahead, e := chip.Ahead(r, n)
		zero(e, len(ahead))
		chain, e = chip.Clash(r)
		zero(e, len(chain))
		sum, e = chip.Refutes(r, g.chain())
		zero(e, sum)
		missing, e := chip.Missing(r)
		zero(e, len(missing))
		list, e := chip.False(r)
		zero(e, len(list))
		list, e = chip.Blame(r)
		zero(e, len(list))
		list, e = chip.Matter(r, s)
		zero(e, len(list))
	}
}

// clearAll makes all numbers of lists 0, and reports whether one of them was
// cleared with another one.
func clearAll(rows ...[]int) bool {
	shared := false
	for i := range rows {
		clear(rows[i])
		for _, after := range rows[i+1:] {
			shared = shared || len(after) > 0 && slices.Max(after) == 0 && slices.Min(after) == 0
		}
	}
	return shared
}

// R4: arguments are not modified, and results are new, also those of one call.
func TestMemory(t *testing.T) {
	r, bad := two(reading(1, 0, 0, 303)), spoilt()
	kept, spoilt := deep(r), deep(bad)
	chain, closed := there(), around()
	same := func() {
		t.Helper()
		if !reflect.DeepEqual(r, kept) || !reflect.DeepEqual(bad, spoilt) || !slices.Equal(chain, there()) || !slices.Equal(closed, around()) {
			t.Fatal("an argument was modified")
		}
	}
	for range 2 {
		for _, made := range []func() ([][]int, []int, api.Errno){
			func() ([][]int, []int, api.Errno) { return chip.Truth(r) },
			func() ([][]int, []int, api.Errno) { return chip.Reach(r, at(1, 0), at(1, 2), true) },
			func() ([][]int, []int, api.Errno) { return chip.Reach(r, at(1, 0), at(1, 2), false) },
			func() ([][]int, []int, api.Errno) { return chip.Placed(r, at(1, 2), true) },
			func() ([][]int, []int, api.Errno) { return chip.Placed(r, at(1, 2), false) },
		} {
			times, offsets, e := made()
			isOne(t, r, times, offsets, e)
			if fits, e := chip.Fits(r, times, offsets); !fits || e != api.OK {
				t.Fatal(fits, e)
			}
			if clearAll(append(times, offsets)...) {
				t.Fatal("rows share memory")
			}
			same()
		}
		steps, _ := chip.Chain(r, at(0, 2), at(1, 2))
		shown, _ := chip.Proves(r, at(0, 2), at(1, 2), steps)
		clash, _ := chip.Clash(bad)
		places, _ := chip.Places(r, 2)
		missing, _ := chip.Missing(r)
		if shown != 251 || !isClash(bad, clash) || places[1] != span(2, 2) || missing[0] != at(0, 1) {
			t.Fatal(steps, clash, places, missing)
		}
		clear(steps)
		clear(clash)
		clear(places)
		clear(missing)
		list, _ := chip.False(bad)
		blame, _ := chip.Blame(bad)
		matter, _ := chip.Matter(r, at(0, 2))
		ahead, _ := chip.Ahead(r, 2)
		if !slices.Equal(list, []int{1}) || !slices.Equal(blame, []int{1}) || !slices.Equal(matter, []int{0, 3}) || !lists(ahead, [][]int{nil, {0}}) {
			t.Fatal(list, blame, matter, ahead)
		}
		clearAll(list, blame, matter)
		chip.Check(r)
		chip.Range(r, at(0, 2))
		chip.Runs(r, 0)
		chip.Proves(r, at(0, 2), at(1, 2), chain)
		chip.Refutes(bad, closed)
		same()
	}
}

// R6: all results but those of which any may be returned are the same at each call.
func TestSameResults(t *testing.T) {
	g := rand.New(rand.NewSource(14))
	for range 100 {
		r := someRace(g, 2)
		all := func() []any {
			var results []any
			for _, s := range spots(r) {
				span, e := chip.Range(r, s)
				list, f := chip.Matter(r, s)
				results = append(results, span, e, list, f)
			}
			places, e := chip.Places(r, 0)
			list, f := chip.False(r)
			blame, h := chip.Blame(r)
			return append(results, places, e, list, f, blame, h)
		}
		if first := all(); !reflect.DeepEqual(first, all()) {
			t.Fatal(r, first)
		}
	}
}

// R3: an empty list is none.
func TestEmptyLists(t *testing.T) {
	for i, r := range []chip.Race{{Starts: []int{5}}, {Starts: []int{5}, Splits: []api.Span{}, Clocks: []chip.Clock{}, Readings: []chip.Reading{}}} {
		times, offsets, e := chip.Truth(r)
		isOne(t, r, times, offsets, e)
		if got, e := chip.Range(r, at(0, 0)); got != span(5, 5) || e != api.OK {
			t.Error(i, got, e)
		}
		if list, e := chip.Missing(r); len(list) > 0 || e != api.OK {
			t.Error(i, list, e)
		}
		for k, chain := range [][]chip.Step{nil, {}} {
			if sum, e := chip.Proves(r, at(0, 0), at(0, 0), chain); sum != 0 || e != api.OK {
				t.Error(i, k, sum, e)
			}
			if _, e := chip.Refutes(r, chain); e != api.ErrWrong {
				t.Error(i, k, e)
			}
		}
		for k, o := range [][]int{nil, {}} {
			if fits, e := chip.Fits(r, [][]int{{5}}, o); !fits || e != api.OK {
				t.Error(i, k, fits, e)
			}
		}
	}
}
