package chip_test

import (
	"math"
	"math/rand"
	"slices"
	"testing"

	"klister/api"
	"klister/chip"
)

// there is the chain of example 3, and around that of example 5.
func there() []chip.Step {
	return []chip.Step{step(chip.Read, 0, 0, false), step(chip.Read, 0, 2, true)}
}

func around() []chip.Step {
	return []chip.Step{step(chip.Start, 1, 0, true), step(chip.Split, 1, 0, true), step(chip.Read, 0, 1, false), step(chip.Offset, 0, 0, false)}
}

// long returns a closed chain of so many steps, an even number.
func long(steps int) []chip.Step {
	return slices.Repeat([]chip.Step{step(chip.Start, 0, 0, false), step(chip.Start, 0, 0, true)}, steps/2)
}

// unknown are steps that example 1 does not have.
func unknown() []chip.Step {
	return []chip.Step{
		step(4, 0, 0, true), step(-1, 0, 0, false), step(math.MaxInt, 0, 0, true), step(math.MinInt, 0, 0, true),
		step(chip.Start, 2, 0, true), step(chip.Start, -1, 0, true), step(chip.Start, 0, 1, true), step(chip.Start, 0, -1, false),
		step(chip.Split, 2, 0, true), step(chip.Split, -1, 0, true), step(chip.Split, 0, 2, true), step(chip.Split, 0, -1, false),
		step(chip.Offset, 1, 0, true), step(chip.Offset, -1, 0, true), step(chip.Offset, 0, 1, true), step(chip.Offset, 0, -1, false),
		step(chip.Read, 1, 0, true), step(chip.Read, -1, 0, true), step(chip.Read, 0, 3, true), step(chip.Read, 0, -1, false),
		step(chip.Read, 0, math.MaxInt, true), step(chip.Split, math.MinInt, 0, false),
	}
}

// P6.3: example 3 of the chapter, other chains, what is none, and what is refused.
func TestProves(t *testing.T) {
	twice := []chip.Step{step(chip.Read, 0, 0, false), step(chip.Read, 0, 0, true)}
	for i, x := range []struct {
		from, to chip.Spot
		chain    []chip.Step
		want     int
		e        api.Errno
	}{
		{at(0, 2), at(1, 2), there(), 251, api.OK},
		{at(1, 2), at(0, 2), []chip.Step{step(chip.Read, 0, 2, false), step(chip.Read, 0, 0, true)}, -247, api.OK},
		{at(0, 2), at(1, 2), append(twice, there()...), 253, api.OK},
		{at(0, 2), at(0, 2), nil, 0, api.OK},
		{at(0, 2), at(0, 2), []chip.Step{}, 0, api.OK},
		{at(0, 2), at(0, 2), twice, 2, api.OK},
		{at(0, 0), at(1, 0), []chip.Step{step(chip.Start, 0, 0, false), step(chip.Start, 1, 0, true)}, 300, api.OK},
		{at(1, 0), at(0, 0), []chip.Step{step(chip.Start, 1, 0, false), step(chip.Start, 0, 0, true)}, -300, api.OK},
		{at(0, 0), at(0, 2), []chip.Step{step(chip.Split, 0, 0, true), step(chip.Split, 0, 1, true)}, 2700, api.OK},
		{at(0, 2), at(0, 0), []chip.Step{step(chip.Split, 0, 1, false), step(chip.Split, 0, 0, false)}, -1900, api.OK},
		{at(0, 0), at(0, 2), []chip.Step{step(chip.Start, 0, 0, false), step(chip.Offset, 0, 0, true), step(chip.Read, 0, 0, true)}, 2256, api.OK},
		{at(0, 2), at(0, 0), []chip.Step{step(chip.Read, 0, 0, false), step(chip.Offset, 0, 0, false), step(chip.Start, 0, 0, true)}, -2244, api.OK},
		{at(0, 0), at(0, 0), long(80), 0, api.OK},
		{at(0, 2), at(1, 1), there(), 0, api.ErrWrong},
		{at(0, 1), at(1, 2), there(), 0, api.ErrWrong},
		{at(0, 2), at(1, 2), there()[:1], 0, api.ErrWrong},
		{at(0, 2), at(1, 2), there()[1:], 0, api.ErrWrong},
		{at(1, 2), at(0, 2), []chip.Step{there()[1], there()[0]}, 0, api.ErrWrong},
		{at(0, 2), at(1, 2), nil, 0, api.ErrWrong},
		{at(0, 0), at(0, 2), []chip.Step{step(chip.Split, 0, 0, true), step(chip.Split, 1, 1, true)}, 0, api.ErrWrong},
		{at(0, 0), at(0, 0), append(long(80), step(chip.Start, 0, 0, true)), 0, api.ErrCount},
		{at(0, 0), at(1, 1), slices.Repeat(unknown()[:1], 81), 0, api.ErrCount},
		{at(0, 0), at(1, 1), slices.Repeat(unknown()[:1], 80), 0, api.ErrUnknown},
		{at(0, 2), at(1, 2), append(there(), unknown()[0]), 0, api.ErrUnknown},
		{at(2, 2), at(1, 2), long(82), 0, api.ErrUnknown},
		{at(0, 2), at(1, 3), long(82), 0, api.ErrUnknown},
		{at(0, -1), at(1, 2), nil, 0, api.ErrUnknown},
	} {
		if got, e := chip.Proves(two(), x.from, x.to, x.chain); got != x.want || e != x.e {
			t.Error(i, got, e)
		}
	}
	for i, s := range unknown() {
		if got, e := chip.Proves(two(), at(0, 0), at(0, 0), []chip.Step{s}); got != 0 || e != api.ErrUnknown {
			t.Error(i, got, e)
		}
	}
	// A chain can prove something though there is no truth.
	if got, e := chip.Proves(spoilt(), at(0, 2), at(1, 2), there()); got != 251 || e != api.OK {
		t.Error(got, e)
	}
}

// P6.3: example 5 of the chapter, other closed chains, what is none, and what is refused.
func TestRefutes(t *testing.T) {
	for i, x := range []struct {
		r     chip.Race
		chain []chip.Step
		want  int
		e     api.Errno
	}{
		{spoilt(), around(), -194, api.OK},
		{spoilt(), append(around()[1:], around()[0]), -194, api.OK},
		{spoilt(), append(around()[3:], around()[:3]...), -194, api.OK},
		{spoilt(), append(around(), around()...), -388, api.OK},
		{spoilt(), slices.Repeat(around(), 20), -3880, api.OK},
		{two(), around(), 0, api.ErrWrong},
		{spoilt(), around()[1:], 0, api.ErrWrong},
		{spoilt(), around()[:3], 0, api.ErrWrong},
		{spoilt(), append(around(), around()[0]), 0, api.ErrWrong},
		{spoilt(), []chip.Step{around()[0], around()[2], around()[1], around()[3]}, 0, api.ErrWrong},
		{spoilt(), nil, 0, api.ErrWrong},
		{spoilt(), long(80), 0, api.ErrWrong},
		{spoilt(), long(82), 0, api.ErrCount},
		{spoilt(), slices.Repeat(around(), 21), 0, api.ErrCount},
		{spoilt(), slices.Repeat(unknown()[:1], 81), 0, api.ErrCount},
		{spoilt(), append(around(), unknown()[1]), 0, api.ErrUnknown},
		{two(), append(around(), unknown()[1]), 0, api.ErrUnknown},
	} {
		if got, e := chip.Refutes(x.r, x.chain); got != x.want || e != x.e {
			t.Error(i, got, e)
		}
	}
	for i, s := range unknown() {
		if got, e := chip.Refutes(spoilt(), []chip.Step{s}); got != 0 || e != api.ErrUnknown {
			t.Error(i, got, e)
		}
	}
	// A closed chain with the sum 0 shows nothing, and one less shows that there is no truth.
	for less, e := range []api.Errno{api.ErrWrong, api.OK} {
		r := exact(1, span(5, 9), reading(0, 1, 0, 5-less))
		up := []chip.Step{step(chip.Start, 0, 0, false), step(chip.Offset, 0, 0, true), step(chip.Read, 0, 0, true), step(chip.Split, 0, 0, false)}
		if got, f := chip.Refutes(r, up); got != -less || f != e {
			t.Error(less, got, f)
		}
	}
}

// steps returns all steps that a race has, and some that it does not have.
func steps(r chip.Race) (has, others []chip.Step) {
	for kind := chip.Kind(-1); kind <= 4; kind++ {
		for skier := -1; skier <= len(r.Starts); skier++ {
			for index := -1; index <= 4; index++ {
				for _, up := range []bool{false, true} {
					s := step(kind, skier, index, up)
					if from, _, _ := slowStep(r, s); from != "" {
						has = append(has, s)
					} else {
						others = append(others, s)
					}
				}
			}
		}
	}
	return has, others
}

// P6.3: all lists of up to four steps, step by step.
func TestChainsOfAllSteps(t *testing.T) {
	r := chip.Race{Starts: []int{4}, Splits: []api.Span{span(2, 3)}, Clocks: []chip.Clock{{Offset: span(-1, 1), Error: 1}}, Readings: []chip.Reading{reading(0, 1, 0, 3)}}
	has, others := steps(r)
	for _, s := range others {
		_, e := chip.Proves(r, at(0, 0), at(0, 1), []chip.Step{has[0], s})
		if _, f := chip.Refutes(r, []chip.Step{s, has[0]}); e != api.ErrUnknown || f != api.ErrUnknown {
			t.Fatal(s, e, f)
		}
	}
	leads, refutes := 0, 0
	for size := range 5 {
		for chain := range choices(slices.Repeat([][]chip.Step{has}, size)) {
			for _, from := range spots(r) {
				for _, to := range spots(r) {
					sum, ok := slowChain(r, from, to, chain)
					want := api.ErrWrong
					if ok {
						want = api.OK
						leads++
					} else {
						sum = 0
					}
					if got, e := chip.Proves(r, from, to, chain); got != sum || e != want {
						t.Fatal(from, to, chain, got, e)
					}
				}
			}
			sum, closed := slowClosed(r, chain)
			want := api.OK
			if !closed || sum >= 0 {
				sum, want = 0, api.ErrWrong
			} else {
				refutes++
			}
			if got, e := chip.Refutes(r, chain); got != sum || e != want {
				t.Fatal(chain, got, e)
			}
		}
	}
	if len(has) != 8 || leads < 20 || refutes == 0 {
		t.Error(has, leads, refutes)
	}
}

// P6.3: a closed chain for each race without a truth, and none for the others.
func TestClash(t *testing.T) {
	if chain, e := chip.Clash(two()); len(chain) > 0 || e != api.ErrNone {
		t.Error(chain, e)
	}
	if chain, e := chip.Clash(bare()); len(chain) > 0 || e != api.ErrNone {
		t.Error(chain, e)
	}
	g := rand.New(rand.NewSource(7))
	unsound := 0
	for i := range 1500 {
		r := someRace(g, 2)
		switch {
		case i == 0:
			r = spoilt()
		case i%5 == 0:
			r = someLarge(g, 1+i%7)
		}
		chain, e := chip.Clash(r)
		if e == api.ErrNone && len(chain) == 0 {
			times, offsets, e := chip.Truth(r)
			isOne(t, r, times, offsets, e)
			continue
		}
		unsound++
		sum, _ := slowClosed(r, chain)
		if got, f := chip.Refutes(r, chain); e != api.OK || !isClash(r, chain) || got != sum || f != api.OK {
			t.Fatal(r, chain, e, got, f)
		}
	}
	if unsound < 300 || unsound > 1200 {
		t.Error(unsound)
	}
}

// P6.3: chains end, and are no longer than is allowed, where everything is exact,
// so that all ways around count 0, and where the wrong reading comes last.
func TestChainsOfExactRaces(t *testing.T) {
	r := chip.Race{Starts: []int{0, 360000, 0, 1, 2, 3, 360000, 0}}
	for k := range 7 {
		r.Splits = append(r.Splits, span(k%2, k%2))
	}
	for k := range 4 {
		n := []int{-36000, 0, 1, 36000}[k]
		r.Clocks = append(r.Clocks, chip.Clock{Offset: span(n, n)})
	}
	for k := range 39 {
		skier, mat, clock := 2+k%4, k%8, 1+k/5%2
		r.Readings = append(r.Readings, reading(skier, mat, clock, r.Starts[skier]+mat/2+r.Clocks[clock].Offset.Lo))
	}
	all := spots(r)
	for _, from := range all {
		for k := 0; k < len(all); k += 21 {
			provedGap(t, r, from, all[k])
		}
	}
	for _, wrong := range []int{-1, 1} {
		r.Readings = append(r.Readings[:39], reading(7, 7, 2, 4+wrong))
		if chain, e := chip.Clash(r); e != api.OK || !isClash(r, chain) {
			t.Fatal(chain, e)
		}
	}
}
