package chip_test

import (
	"math/rand"
	"slices"
	"testing"

	"klister/api"
	"klister/chip"
)

// mats returns a race with a mat at which skiers have been read, by pairs of a skier and a time.
func mats(pairs ...int) chip.Race {
	r := exact(3, span(10, 20))
	for i := 0; i+1 < len(pairs); i += 2 {
		r.Readings = append(r.Readings, reading(pairs[i], 1, 0, pairs[i+1]))
	}
	return r
}

// P6.5: example 5 of the chapter, the first of several lists, no list, and lists that are too long.
func TestFalseAndBlame(t *testing.T) {
	for i, x := range []struct {
		r     chip.Race
		bad   []int
		blame []int
		e, f  api.Errno
	}{
		{two(), nil, nil, api.OK, api.ErrNone},
		{bare(), nil, nil, api.OK, api.ErrNone},
		{spoilt(), []int{1}, []int{1}, api.OK, api.OK},
		{mats(0, 15, 0, 16), []int{0}, []int{0}, api.OK, api.OK},
		{mats(1, 15, 0, 15, 0, 16), []int{1}, []int{0}, api.OK, api.OK},
		{mats(0, 15, 0, 16, 0, 16), []int{0}, []int{0}, api.OK, api.OK},
		{mats(0, 16, 0, 15, 0, 16), []int{1}, []int{0}, api.OK, api.OK},
		{mats(0, 16, 0, 16, 0, 15), []int{2}, []int{0}, api.OK, api.OK},
		{mats(0, 15, 0, 16, 0, 17), []int{0, 1}, []int{0}, api.OK, api.OK},
		{mats(0, 15, 0, 16, 0, 15, 0, 17), []int{1, 3}, []int{0}, api.OK, api.OK},
		{mats(0, 15, 0, 15, 0, 16, 0, 16), []int{0, 1}, []int{0}, api.OK, api.OK},
		{mats(0, 15, 0, 16, 0, 16, 0, 15), []int{0, 3}, []int{0}, api.OK, api.OK},
		{mats(0, 15, 0, 16, 0, 17, 0, 18), nil, []int{0}, api.ErrLarge, api.OK},
		{mats(0, 15, 0, 15, 0, 15, 0, 16, 0, 16, 0, 16), nil, []int{0}, api.ErrLarge, api.OK},
		{mats(1, 9, 2, 21), []int{0, 1}, nil, api.OK, api.OK},
		{mats(1, 9, 2, 15, 2, 21, 1, 9), nil, nil, api.ErrLarge, api.OK},
		{mats(2, 9, 2, 21, 0, 15), []int{0, 1}, []int{2}, api.OK, api.OK},
		{mats(1, 9, 2, 21, 0, 5), nil, nil, api.ErrLarge, api.OK},
		{mats(1, 10, 2, 20), nil, nil, api.OK, api.ErrNone},
		{exact(1, span(3, 4), reading(0, 1, 0, 5)), []int{0}, []int{0}, api.OK, api.OK},
	} {
		if got, e := chip.False(x.r); !slices.Equal(got, x.bad) || e != x.e {
			t.Error(i, got, e)
		}
		if got, e := chip.Blame(x.r); !slices.Equal(got, x.blame) || e != x.f {
			t.Error(i, got, e)
		}
	}
	// Two skiers have readings by a clock that can be right about one of them only.
	r := exact(3, span(10, 10), reading(0, 1, 0, 12), reading(2, 1, 0, 14))
	r.Clocks[0].Offset = span(0, 9)
	if got, e := chip.Blame(r); !slices.Equal(got, []int{0, 2}) || e != api.OK {
		t.Error(got, e)
	}
	if got, e := chip.False(r); !slices.Equal(got, []int{0}) || e != api.OK {
		t.Error(got, e)
	}
}

// P6.5: the first one of readings any of which can be false, in whatever order a
// closed chain takes them: two clocks differ by something else for each skier, who
// passes at an unknown time.
func TestFalseIsTheFirst(t *testing.T) {
	differ := func(skier, clock int) []chip.Reading {
		return []chip.Reading{
			reading(skier, 1, clock, 20), reading(skier, 1, clock+1, 22),
			reading(skier+1, 1, clock, 20), reading(skier+1, 1, clock+1, 23),
		}
	}
	r := exact(4, span(0, 40))
	r.Clocks = slices.Repeat([]chip.Clock{{Offset: span(-9, 9)}}, 4)
	for order := range choices(numbers(slices.Repeat([]api.Span{span(0, 3)}, 4)...)) {
		if len(slices.Compact(slices.Sorted(slices.Values(order)))) < 4 {
			continue
		}
		r.Readings = nil
		for _, k := range order {
			r.Readings = append(r.Readings, differ(0, 0)[k])
		}
		if got, e := chip.False(r); !slices.Equal(got, []int{0}) || e != api.OK {
			t.Error(order, got, e)
		}
		for _, k := range order {
			r.Readings = append(r.Readings, differ(2, 2)[k])
		}
		if got, e := chip.False(r); !slices.Equal(got, []int{0, 4}) || e != api.OK {
			t.Error(order, got, e)
		}
		slices.Reverse(r.Readings)
		if got, e := chip.False(r); !slices.Equal(got, []int{0, 4}) || e != api.OK {
			t.Error(order, got, e)
		}
		if got, e := chip.Blame(r); len(got) > 0 || e != api.OK {
			t.Error(order, got, e)
		}
		r.Readings = r.Readings[:4]
		if got, e := chip.Blame(r); !slices.Equal(got, []int{2, 3}) || e != api.OK {
			t.Error(order, got, e)
		}
	}
}

// P6.5: which readings matter: none of two that say the same, and what is refused.
func TestMatter(t *testing.T) {
	for i, x := range []struct {
		r    chip.Race
		s    chip.Spot
		want []int
		e    api.Errno
	}{
		{two(), at(0, 2), []int{0}, api.OK},
		{two(), at(1, 2), []int{2}, api.OK},
		{two(), at(1, 1), []int{1}, api.OK},
		{two(), at(0, 1), nil, api.OK},
		{two(), at(0, 0), nil, api.OK},
		{two(reading(1, 0, 0, 303)), at(0, 2), []int{0, 3}, api.OK},
		{two(reading(1, 0, 0, 303), reading(0, 0, 0, 3)), at(0, 2), []int{0}, api.OK},
		{mats(0, 15, 0, 15), at(0, 1), nil, api.OK},
		{mats(0, 15), at(0, 1), []int{0}, api.OK},
		{mats(0, 15), at(1, 1), nil, api.OK},
		{bare(), at(0, 1), nil, api.OK},
		{two(), at(2, 0), nil, api.ErrUnknown},
		{two(), at(0, 3), nil, api.ErrUnknown},
		{spoilt(), at(0, 3), nil, api.ErrUnknown},
		{spoilt(), at(0, 2), nil, api.ErrConflict},
	} {
		if got, e := chip.Matter(x.r, x.s); !slices.Equal(got, x.want) || e != x.e {
			t.Error(i, got, e)
		}
	}
}

// P6.5: failures of small races, by all lists of readings and all truths.
func TestFailuresOfAllTruths(t *testing.T) {
	g := rand.New(rand.NewSource(10))
	seen := map[int]int{}
	for range 1500 {
		r := someRace(g, 3)
		list, e := chip.False(r)
		want, wrong := slowFalse(r, slowSound)
		if !slices.Equal(list, want) || e != wrong {
			t.Fatal(r, list, want, e)
		}
		seen[len(list)*10+int(e)]++
		blame, e := chip.Blame(r)
		if slowSound(r) {
			if len(blame) > 0 || e != api.ErrNone {
				t.Fatal(r, blame, e)
			}
		} else if !slices.Equal(blame, slowBlame(r)) || e != api.OK {
			t.Fatal(r, blame, e)
		}
	}
	if seen[0] < 100 || seen[10] < 100 || seen[20] < 50 || seen[int(api.ErrLarge)] < 5 {
		t.Error(seen)
	}
}

// P6.5: which readings of small races matter, by all truths without each of them.
func TestMatterOfAllTruths(t *testing.T) {
	g := rand.New(rand.NewSource(11))
	matters := 0
	for range 500 {
		r := someRace(g, 0)
		all := slow(r)
		less := make([]known, len(r.Readings))
		for k := range r.Readings {
			less[k] = slow(without(r, k))
		}
		for _, s := range spots(r) {
			var want []int
			for k := range r.Readings {
				if less[k].times[s] != all.times[s] {
					want = append(want, k)
				}
			}
			matters += len(want)
			if got, e := chip.Matter(r, s); !slices.Equal(got, want) || e != api.OK {
				t.Fatal(r, s, got, want, e)
			}
		}
	}
	if matters < 100 {
		t.Error(matters)
	}
}

// sound reports whether there is a truth, and checks that it is one, or that a
// closed chain shows that there is none.
func sound(t *testing.T, r chip.Race) bool {
	t.Helper()
	times, offsets, e := chip.Truth(r)
	if e == api.OK {
		isOne(t, r, times, offsets, e)
		return true
	}
	if chain, e := chip.Clash(r); e != api.OK || !isClash(r, chain) {
		t.Fatal(r, chain, e)
	}
	return false
}

// P6.5: readings that are false among as many as there can be.
func TestFalseOfManyReadings(t *testing.T) {
	g := rand.New(rand.NewSource(12))
	seen := map[int]int{}
	for i := range 12 {
		r := someLarge(g, 0)
		for range i % 4 {
			if len(r.Readings) > 0 {
				r.Readings[g.Intn(len(r.Readings))].Time = g.Intn(3000)
			}
		}
		list, e := chip.False(r)
		want, wrong := slowFalse(r, func(r chip.Race) bool { return sound(t, r) })
		if !slices.Equal(list, want) || e != wrong {
			t.Fatal(r, list, want, e)
		}
		seen[len(list)*10+int(e)]++
	}
	if seen[0] == 0 || seen[10] == 0 || seen[20] == 0 || seen[int(api.ErrLarge)] == 0 {
		t.Error(seen)
	}
}
