package chip_test

import (
	"math"
	"math/rand"
	"slices"
	"testing"

	"klister/api"
	"klister/chip"
)

// P6.1: what is a truth of example 1, and what is refused.
func TestFits(t *testing.T) {
	fine := [][]int{{0, 1100, 2250}, {300, 1400, 2499}}
	for i, x := range []struct {
		times   [][]int
		offsets []int
		want    bool
		e       api.Errno
	}{
		{fine, []int{0}, true, api.OK},
		{fine, []int{1}, true, api.OK},
		{fine, []int{-1}, true, api.OK},
		{fine, []int{2}, false, api.OK},
		{fine, []int{-2}, false, api.OK},
		{[][]int{{0, 1000, 2256}, {300, 1406, 2505}}, []int{-5}, true, api.OK},
		{[][]int{{0, 1000, 2257}, {300, 1406, 2505}}, []int{-6}, false, api.OK},
		{[][]int{{0, 1200, 2244}, {300, 1394, 2493}}, []int{5}, true, api.OK},
		{[][]int{{0, 1200, 2243}, {300, 1394, 2493}}, []int{6}, false, api.OK},
		{[][]int{{0, 1100, 2250}, {301, 1400, 2499}}, []int{0}, false, api.OK},
		{[][]int{{-1, 1100, 2250}, {300, 1400, 2499}}, []int{0}, false, api.OK},
		{[][]int{{0, 999, 2250}, {300, 1400, 2499}}, []int{0}, false, api.OK},
		{[][]int{{0, 1201, 2250}, {300, 1400, 2499}}, []int{0}, false, api.OK},
		{[][]int{{0, 100000000, -100000000}, {300, 1400, 2499}}, []int{-100000000}, false, api.OK},
		{fine[:1], []int{0}, false, api.ErrCount},
		{append(slices.Clone(fine), nil), []int{0}, false, api.ErrCount},
		{[][]int{{0, 1100, 2250}, {300, 1400}}, []int{0}, false, api.ErrCount},
		{[][]int{{0, 1100, 2250}, {300, 1400, 2499, 2500}}, []int{0}, false, api.ErrCount},
		{nil, nil, false, api.ErrCount},
		{fine, nil, false, api.ErrCount},
		{fine, []int{0, 0}, false, api.ErrCount},
		{[][]int{{0, math.MaxInt, 2250}, {300, 1400, 2499}}, []int{0, 0}, false, api.ErrCount},
		{[][]int{{0, 100000001, 2250}, {300, 1400, 2499}}, []int{0}, false, api.ErrRange},
		{[][]int{{0, 1100, 2250}, {300, -100000001, 2499}}, []int{0}, false, api.ErrRange},
		{[][]int{{0, 1100, 2250}, {300, 1400, math.MinInt}}, []int{0}, false, api.ErrRange},
		{[][]int{{0, 1100, 2250}, {300, 1400, math.MaxInt}}, []int{0}, false, api.ErrRange},
		{fine, []int{100000001}, false, api.ErrRange},
		{fine, []int{-100000001}, false, api.ErrRange},
		{fine, []int{math.MinInt}, false, api.ErrRange},
	} {
		if got, e := chip.Fits(two(), x.times, x.offsets); got != x.want || e != x.e {
			t.Error(i, got, e)
		}
	}
	if got, e := chip.Fits(spoilt(), fine, []int{0}); got || e != api.OK {
		t.Error(got, e)
	}
	if got, e := chip.Fits(chip.Race{Starts: []int{7}}, [][]int{{7}}, []int{}); !got || e != api.OK {
		t.Error(got, e)
	}
}

// P6.1: truths, and what differs from them in one number.
func TestFitsAroundTruths(t *testing.T) {
	g := rand.New(rand.NewSource(1))
	others := 0
	for range 300 {
		r := someRace(g, 1)
		for one := range truths(r) {
			if g.Intn(10) > 0 {
				continue
			}
			for _, row := range append(slices.Clone(one.times), one.offsets) {
				for k := range row {
					for _, by := range []int{0, 1, -1, 2, -2} {
						row[k] += by
						want := isTruth(r, one)
						if got, e := chip.Fits(r, one.times, one.offsets); got != want || e != api.OK {
							t.Fatal(r, one, got, e)
						}
						if !want {
							others++
						}
						row[k] -= by
					}
				}
			}
		}
	}
	if others < 1000 {
		t.Error(others)
	}
}

// isOne checks that something is a truth.
func isOne(t *testing.T, r chip.Race, times [][]int, offsets []int, e api.Errno) truth {
	t.Helper()
	fits, f := chip.Fits(r, times, offsets)
	if e != api.OK || f != api.OK || !fits || !isTruth(r, truth{times, offsets}) {
		t.Fatal(r, times, offsets, e, fits, f)
	}
	return truth{times, offsets}
}

// P6.1: a truth of each race that has one, of races with as much of all as there
// can be too, and none of the others, which a closed chain shows.
func TestTruth(t *testing.T) {
	g := rand.New(rand.NewSource(2))
	sound := 0
	for i := range 1000 {
		r := someRace(g, 1)
		switch {
		case i%10 == 0:
			r = someLarge(g, i%3)
		case i%5 == 0:
			r = someExtreme(g)
		}
		times, offsets, e := chip.Truth(r)
		if e == api.OK {
			isOne(t, r, times, offsets, e)
			sound++
			continue
		}
		if chain, f := chip.Clash(r); e != api.ErrConflict || f != api.OK || !isClash(r, chain) {
			t.Fatal(r, e, f, chain)
		}
		if i%5 > 0 && slowSound(r) {
			t.Fatal(r)
		}
	}
	if sound < 200 || sound > 900 {
		t.Error(sound)
	}
	for i, r := range []chip.Race{two(), bare(), {Starts: []int{360000}}, {Starts: []int{3}, Clocks: []chip.Clock{{Offset: span(-36000, -36000)}}}} {
		times, offsets, e := chip.Truth(r)
		if isOne(t, r, times, offsets, e); i == 3 && offsets[0] != -36000 {
			t.Error(offsets)
		}
	}
	if times, offsets, e := chip.Truth(spoilt()); len(times)+len(offsets) > 0 || e != api.ErrConflict {
		t.Error(times, offsets, e)
	}
}
