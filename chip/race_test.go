package chip_test

import (
	"math"
	"slices"
	"testing"

	"klister/api"
	"klister/chip"
)

// second and third return the last one of two, and of three results.
func second[T any](_ T, e api.Errno) api.Errno { return e }

func third[S, T any](_ S, _ T, e api.Errno) api.Errno { return e }

// raceErrors returns the errors of all functions, the other arguments of which
// are refused with errors that come later.
func raceErrors(r chip.Race) []api.Errno {
	no := at(-1, 99)
	many := slices.Repeat([]chip.Step{{Kind: 9}}, 81)
	return []api.Errno{
		chip.Check(r),
		second(chip.Fits(r, nil, []int{math.MaxInt})),
		third(chip.Truth(r)),
		second(chip.Range(r, no)),
		second(chip.Gap(r, no, no)),
		second(chip.Runs(r, 99)),
		third(chip.Reach(r, no, no, true)),
		third(chip.Reach(r, no, no, false)),
		second(chip.Chain(r, no, no)),
		second(chip.Proves(r, no, no, many)),
		second(chip.Places(r, 99)),
		third(chip.Placed(r, no, true)),
		third(chip.Placed(r, no, false)),
		second(chip.Ahead(r, -1)),
		second(chip.Clash(r)),
		second(chip.Refutes(r, many)),
		second(chip.Missing(r)),
		second(chip.False(r)),
		second(chip.Blame(r)),
		second(chip.Matter(r, no)),
	}
}

// P6.1: what is refused, and which of several errors comes first, in all functions.
func TestCheckRefuses(t *testing.T) {
	for i, x := range []struct {
		change func(r *chip.Race)
		e      api.Errno
	}{
		{func(r *chip.Race) { *r = chip.Race{} }, api.ErrCount},
		{func(r *chip.Race) { r.Starts = []int{} }, api.ErrCount},
		{func(r *chip.Race) { r.Starts = make([]int, 9) }, api.ErrCount},
		{func(r *chip.Race) { r.Splits = make([]api.Span, 8) }, api.ErrCount},
		{func(r *chip.Race) { r.Clocks = make([]chip.Clock, 5) }, api.ErrCount},
		{func(r *chip.Race) { r.Readings = make([]chip.Reading, 41) }, api.ErrCount},
		{func(r *chip.Race) { r.Starts = nil; r.Readings[0].Time = -1 }, api.ErrCount},
		{func(r *chip.Race) { r.Starts[0] = -1; r.Readings = slices.Repeat(r.Readings, 14) }, api.ErrCount},
		{func(r *chip.Race) { r.Clocks = make([]chip.Clock, 5); r.Splits[1] = span(1, 0) }, api.ErrCount},
		{func(r *chip.Race) { r.Splits = make([]api.Span, 8); r.Readings[0].Skier = 2 }, api.ErrCount},
		{func(r *chip.Race) { r.Starts[1] = -1 }, api.ErrRange},
		{func(r *chip.Race) { r.Starts[1] = 360001 }, api.ErrRange},
		{func(r *chip.Race) { r.Starts[0] = math.MinInt }, api.ErrRange},
		{func(r *chip.Race) { r.Starts[0] = math.MaxInt }, api.ErrRange},
		{func(r *chip.Race) { r.Splits[1] = span(-1, 0) }, api.ErrRange},
		{func(r *chip.Race) { r.Splits[1] = span(0, 360001) }, api.ErrRange},
		{func(r *chip.Race) { r.Splits[0] = span(8, 7) }, api.ErrRange},
		{func(r *chip.Race) { r.Splits[0] = span(math.MinInt, math.MaxInt) }, api.ErrRange},
		{func(r *chip.Race) { r.Splits[0] = span(math.MaxInt, math.MinInt) }, api.ErrRange},
		{func(r *chip.Race) { r.Clocks[0].Offset = span(-36001, 0) }, api.ErrRange},
		{func(r *chip.Race) { r.Clocks[0].Offset = span(0, 36001) }, api.ErrRange},
		{func(r *chip.Race) { r.Clocks[0].Offset = span(1, 0) }, api.ErrRange},
		{func(r *chip.Race) { r.Clocks[0].Offset = span(math.MinInt, math.MinInt) }, api.ErrRange},
		{func(r *chip.Race) { r.Clocks[0].Error = -1 }, api.ErrRange},
		{func(r *chip.Race) { r.Clocks[0].Error = 601 }, api.ErrRange},
		{func(r *chip.Race) { r.Clocks[0].Error = math.MinInt }, api.ErrRange},
		{func(r *chip.Race) { r.Readings[2].Time = -1 }, api.ErrRange},
		{func(r *chip.Race) { r.Readings[2].Time = 360001 }, api.ErrRange},
		{func(r *chip.Race) { r.Readings[2].Time = math.MaxInt }, api.ErrRange},
		{func(r *chip.Race) { r.Readings[0].Clock = 1; r.Readings[2].Time = -1 }, api.ErrRange},
		{func(r *chip.Race) { r.Readings[0].Skier = 2; r.Clocks[0].Error = 601 }, api.ErrRange},
		{func(r *chip.Race) { r.Readings[2].Skier = 2 }, api.ErrUnknown},
		{func(r *chip.Race) { r.Readings[2].Skier = -1 }, api.ErrUnknown},
		{func(r *chip.Race) { r.Readings[2].Mat = 3 }, api.ErrUnknown},
		{func(r *chip.Race) { r.Readings[2].Mat = -1 }, api.ErrUnknown},
		{func(r *chip.Race) { r.Readings[2].Clock = 1 }, api.ErrUnknown},
		{func(r *chip.Race) { r.Readings[2].Clock = -1 }, api.ErrUnknown},
		{func(r *chip.Race) { r.Readings[0] = reading(math.MaxInt, math.MinInt, math.MinInt, 0) }, api.ErrUnknown},
		{func(r *chip.Race) { r.Clocks = nil }, api.ErrUnknown},
		{func(r *chip.Race) { r.Splits = nil }, api.ErrUnknown},
	} {
		r := spoilt()
		x.change(&r)
		for k, e := range raceErrors(r) {
			if e != x.e {
				t.Error(i, k, e)
			}
		}
	}
}

// P6.1: what is allowed, up to the ends, whether or not there is a truth.
func TestCheckAllows(t *testing.T) {
	for i, r := range []chip.Race{
		two(), spoilt(), bare(),
		{Starts: []int{360000}},
		{Starts: make([]int, 8), Splits: make([]api.Span, 7), Clocks: make([]chip.Clock, 4), Readings: make([]chip.Reading, 40)},
		{Starts: []int{0}, Splits: []api.Span{span(0, 360000), span(360000, 360000)}},
		{Starts: []int{0}, Clocks: []chip.Clock{{Offset: span(-36000, 36000), Error: 600}, {Offset: span(36000, 36000)}, {Offset: span(-36000, -36000)}}},
		exact(8, span(0, 0), reading(7, 1, 0, 360000), reading(7, 0, 0, 0)),
		{Starts: []int{0}, Splits: []api.Span{}, Clocks: []chip.Clock{}, Readings: []chip.Reading{}},
	} {
		if e := chip.Check(r); e != api.OK {
			t.Error(i, e)
		}
	}
}

// P6.5: the spots without a reading, whether or not readings contradict each other.
func TestMissing(t *testing.T) {
	for i, x := range []struct {
		r    chip.Race
		want []chip.Spot
	}{
		{two(), []chip.Spot{at(0, 1)}},
		{spoilt(), []chip.Spot{at(0, 1)}},
		{bare(), []chip.Spot{at(0, 1), at(0, 2), at(1, 1), at(1, 2)}},
		{two(reading(0, 1, 0, 0)), nil},
		{two(reading(0, 0, 0, 0), reading(0, 2, 0, 0)), []chip.Spot{at(0, 1)}},
		{chip.Race{Starts: []int{0, 0}}, nil},
		{exact(3, span(1, 1), reading(1, 1, 0, 1), reading(1, 1, 0, 2), reading(2, 0, 0, 0)), []chip.Spot{at(0, 1), at(2, 1)}},
	} {
		if got, e := chip.Missing(x.r); !slices.Equal(got, x.want) || e != api.OK {
			t.Error(i, got, e)
		}
	}
}
