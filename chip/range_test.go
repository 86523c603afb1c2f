package chip_test

import (
	"math/rand"
	"testing"

	"klister/api"
	"klister/chip"
)

// P6.2: examples 2 and 6 of the chapter, readings at the mat 0, ends of what is allowed, and what is refused.
func TestRange(t *testing.T) {
	sure := two(reading(1, 0, 0, 303))
	longest := chip.Race{Starts: []int{360000}, Splits: make([]api.Span, 7)}
	for k := range longest.Splits {
		longest.Splits[k] = span(k, 360000)
	}
	for i, x := range []struct {
		r    chip.Race
		s    chip.Spot
		want api.Span
		e    api.Errno
	}{
		{two(), at(0, 0), span(0, 0), api.OK},
		{two(), at(0, 1), span(1000, 1200), api.OK},
		{two(), at(0, 2), span(2244, 2256), api.OK},
		{two(), at(1, 0), span(300, 300), api.OK},
		{two(), at(1, 1), span(1394, 1406), api.OK},
		{two(), at(1, 2), span(2493, 2505), api.OK},
		{bare(), at(0, 2), span(1900, 2700), api.OK},
		{bare(), at(1, 2), span(2200, 3000), api.OK},
		{bare(), at(1, 1), span(1300, 1500), api.OK},
		{sure, at(0, 2), span(2245, 2249), api.OK},
		{sure, at(1, 1), span(1395, 1399), api.OK},
		{longest, at(0, 7), span(360021, 2880000), api.OK},
		{exact(1, span(3, 3)), at(0, 1), span(3, 3), api.OK},
		{exact(2, span(0, 360000), reading(1, 1, 0, 0)), at(1, 1), span(0, 0), api.OK},
		{exact(2, span(0, 360000), reading(1, 1, 0, 360000)), at(1, 1), span(360000, 360000), api.OK},
		{two(), at(2, 0), span(0, 0), api.ErrUnknown},
		{two(), at(-1, 0), span(0, 0), api.ErrUnknown},
		{two(), at(0, 3), span(0, 0), api.ErrUnknown},
		{two(), at(0, -1), span(0, 0), api.ErrUnknown},
		{spoilt(), at(2, 0), span(0, 0), api.ErrUnknown},
		{spoilt(), at(0, 3), span(0, 0), api.ErrUnknown},
		{spoilt(), at(0, 0), span(0, 0), api.ErrConflict},
	} {
		if got, e := chip.Range(x.r, x.s); got != x.want || e != x.e {
			t.Error(i, got, e)
		}
	}
}

// P6.2: example 3 of the chapter, and what is refused.
func TestGap(t *testing.T) {
	for i, x := range []struct {
		r        chip.Race
		from, to chip.Spot
		want     api.Span
		e        api.Errno
	}{
		{two(), at(0, 2), at(1, 2), span(247, 251), api.OK},
		{two(), at(1, 2), at(0, 2), span(-251, -247), api.OK},
		{two(), at(1, 1), at(1, 2), span(1097, 1101), api.OK},
		{two(), at(0, 1), at(0, 2), span(1044, 1256), api.OK},
		{two(), at(0, 2), at(0, 2), span(0, 0), api.OK},
		{two(), at(0, 0), at(1, 0), span(300, 300), api.OK},
		{bare(), at(0, 2), at(1, 2), span(-500, 1100), api.OK},
		{bare(), at(0, 1), at(0, 2), span(900, 1500), api.OK},
		{two(), at(2, 2), at(1, 2), span(0, 0), api.ErrUnknown},
		{two(), at(0, 3), at(1, 2), span(0, 0), api.ErrUnknown},
		{two(), at(0, 2), at(2, 2), span(0, 0), api.ErrUnknown},
		{two(), at(0, 2), at(1, -1), span(0, 0), api.ErrUnknown},
		{spoilt(), at(-1, 2), at(0, 2), span(0, 0), api.ErrUnknown},
		{spoilt(), at(0, 2), at(0, 3), span(0, 0), api.ErrUnknown},
		{spoilt(), at(0, 2), at(0, 2), span(0, 0), api.ErrConflict},
	} {
		if got, e := chip.Gap(x.r, x.from, x.to); got != x.want || e != x.e {
			t.Error(i, got, e)
		}
		for _, most := range []bool{false, true} {
			times, offsets, e := chip.Reach(x.r, x.from, x.to, most)
			if e != x.e || e != api.OK && len(times)+len(offsets) > 0 {
				t.Error(i, times, offsets, e)
			}
		}
		if chain, e := chip.Chain(x.r, x.from, x.to); e != x.e || e != api.OK && len(chain) > 0 {
			t.Error(i, chain, e)
		}
	}
}

// P6.2: offsets of clocks, which readings of known times make surer, and what is refused.
func TestRuns(t *testing.T) {
	apart := two(reading(1, 0, 1, 310), reading(0, 2, 1, 2262))
	apart.Clocks = append(apart.Clocks, chip.Clock{Offset: span(-36000, 36000), Error: 2})
	for i, x := range []struct {
		r     chip.Race
		clock int
		want  api.Span
		e     api.Errno
	}{
		{two(), 0, span(-5, 5), api.OK},
		{bare(), 0, span(-5, 5), api.OK},
		{two(reading(1, 0, 0, 303)), 0, span(2, 4), api.OK},
		{two(reading(1, 0, 0, 306)), 0, span(5, 5), api.OK},
		{two(reading(0, 0, 0, 0)), 0, span(-1, 1), api.OK},
		{apart, 0, span(-5, 3), api.OK},
		{apart, 1, span(8, 12), api.OK},
		{two(), 1, span(0, 0), api.ErrUnknown},
		{two(), -1, span(0, 0), api.ErrUnknown},
		{chip.Race{Starts: []int{0}}, 0, span(0, 0), api.ErrUnknown},
		{spoilt(), 1, span(0, 0), api.ErrUnknown},
		{spoilt(), 0, span(0, 0), api.ErrConflict},
		{two(reading(1, 0, 0, 307)), 0, span(0, 0), api.ErrConflict},
	} {
		if got, e := chip.Runs(x.r, x.clock); got != x.want || e != x.e {
			t.Error(i, got, e)
		}
	}
}

// P6.2: the ranges of small races, as they are seen in all truths.
func TestRangesOfAllTruths(t *testing.T) {
	g := rand.New(rand.NewSource(3))
	sound := 0
	for range 600 {
		r := someRace(g, g.Intn(2))
		want := slow(r)
		wrong := api.ErrConflict
		if want.sound {
			wrong = api.OK
			sound++
		}
		for _, s := range spots(r) {
			if got, e := chip.Range(r, s); got != want.times[s].Span || e != wrong {
				t.Fatal(r, s, got, e)
			}
			for _, to := range spots(r) {
				if got, e := chip.Gap(r, s, to); got != want.gaps[[2]chip.Spot{s, to}].Span || e != wrong {
					t.Fatal(r, s, to, got, e)
				}
			}
		}
		for clock := range r.Clocks {
			if got, e := chip.Runs(r, clock); got != want.offsets[clock].Span || e != wrong {
				t.Fatal(r, clock, got, e)
			}
		}
	}
	if sound < 200 || sound > 550 {
		t.Error(sound)
	}
}

// provedGap checks that both ends of a gap are reached by truths and proved by chains.
func provedGap(t *testing.T, r chip.Race, from, to chip.Spot) {
	t.Helper()
	gap, e := chip.Gap(r, from, to)
	for k, most := range []bool{false, true} {
		times, offsets, f := chip.Reach(r, from, to, most)
		if one := isOne(t, r, times, offsets, f); e != api.OK || one.at(to)-one.at(from) != []int{gap.Lo, gap.Hi}[k] {
			t.Fatal(r, from, to, most, gap, one)
		}
	}
	for k, ends := range [][2]chip.Spot{{to, from}, {from, to}} {
		chain, f := chip.Chain(r, ends[0], ends[1])
		sum, leads := slowChain(r, ends[0], ends[1], chain)
		if f != api.OK || !leads || sum != []int{-gap.Lo, gap.Hi}[k] || len(chain) > chip.MaxSteps {
			t.Fatal(r, from, to, gap, chain, sum, leads)
		}
		if n, f := chip.Proves(r, ends[0], ends[1], chain); n != sum || f != api.OK {
			t.Fatal(r, from, to, n, sum, f)
		}
	}
}

// P6.2, P6.3, P6.6, P0.7: each end of each gap is reached by a truth and proved
// by a chain, in small races, in those with as much of all as there can be, and at the ends of
// what is allowed.
func TestRangesAreReachedAndProved(t *testing.T) {
	g := rand.New(rand.NewSource(4))
	sound := 0
	for i := range 200 {
		r := someRace(g, 1)
		switch {
		case i%30 == 0:
			r = someLarge(g, 0)
		case i%20 == 0:
			r = someExtreme(g)
		}
		if _, _, e := chip.Truth(r); e != api.OK {
			continue
		}
		sound++
		all := spots(r)
		for _, from := range all {
			to := all[g.Intn(len(all))]
			provedGap(t, r, from, to)
			// The skiers start at known times, so that a range is a gap.
			start := at(from.Skier, 0)
			gap, _ := chip.Gap(r, start, from)
			first := r.Starts[from.Skier]
			if got, e := chip.Range(r, from); got != span(first+gap.Lo, first+gap.Hi) || e != api.OK {
				t.Fatal(r, from, got, gap, e)
			}
		}
	}
	if sound < 100 {
		t.Error(sound)
	}
}

// P6.6: a reading more makes no range wider, and a greater error or wider spans make none narrower.
func TestRangesOfMore(t *testing.T) {
	g := rand.New(rand.NewSource(5))
	for range 300 {
		r := someRace(g, 1)
		if _, _, e := chip.Truth(r); e != api.OK {
			continue
		}
		var looser []chip.Race
		for k := range r.Readings {
			looser = append(looser, without(r, k))
		}
		for k := range r.Clocks {
			l := deep(r)
			l.Clocks[k].Error++
			looser = append(looser, l)
			l = deep(r)
			l.Clocks[k].Offset.Lo--
			looser = append(looser, l)
		}
		for k := range r.Splits {
			l := deep(r)
			l.Splits[k].Hi++
			looser = append(looser, l)
		}
		for _, s := range spots(r) {
			narrow, _ := chip.Range(r, s)
			for _, l := range looser {
				if got, e := chip.Range(l, s); e != api.OK || !in(narrow.Lo, got) || !in(narrow.Hi, got) {
					t.Fatal(r, l, s, narrow, got, e)
				}
			}
		}
	}
}

// P6.6: without readings, clocks can have each offset of their spans.
func TestRunsWithoutReadings(t *testing.T) {
	g := rand.New(rand.NewSource(6))
	for range 100 {
		r := someLarge(g, 0)
		r.Readings = nil
		for k, c := range r.Clocks {
			if got, e := chip.Runs(r, k); got != c.Offset || e != api.OK {
				t.Fatal(r, k, got, e)
			}
		}
	}
}
