package chip_test

import (
	"math/rand"
	"slices"
	"testing"

	"klister/api"
	"klister/chip"
)

// lists reports whether lists of lists are the same.
func lists(a, b [][]int) bool {
	return slices.EqualFunc(a, b, func(a, b []int) bool { return slices.Equal(a, b) })
}

// P6.4: examples 4 and 6 of the chapter, those who pass at the same time, and what is refused.
func TestPlaces(t *testing.T) {
	three := bare()
	three.Starts = append(three.Starts, 2000)
	late := bare()
	late.Starts = append(late.Starts, 800)
	same := exact(3, span(5, 5))
	for i, x := range []struct {
		r     chip.Race
		mat   int
		want  []api.Span
		ahead [][]int
		e     api.Errno
	}{
		{two(), 0, []api.Span{span(1, 1), span(2, 2)}, [][]int{nil, {0}}, api.OK},
		{two(), 2, []api.Span{span(1, 1), span(2, 2)}, [][]int{nil, {0}}, api.OK},
		{bare(), 2, []api.Span{span(1, 2), span(1, 2)}, [][]int{nil, nil}, api.OK},
		{three, 2, []api.Span{span(1, 2), span(1, 2), span(3, 3)}, [][]int{nil, nil, {0, 1}}, api.OK},
		// The last one to start can pass together with the first one, but not before.
		{late, 2, []api.Span{span(1, 2), span(1, 3), span(1, 3)}, [][]int{nil, nil, nil}, api.OK},
		{late, 1, []api.Span{span(1, 1), span(2, 2), span(3, 3)}, [][]int{nil, {0}, {0, 1}}, api.OK},
		{same, 0, []api.Span{span(1, 1), span(1, 1), span(1, 1)}, [][]int{nil, nil, nil}, api.OK},
		{same, 1, []api.Span{span(1, 1), span(1, 1), span(1, 1)}, [][]int{nil, nil, nil}, api.OK},
		{chip.Race{Starts: []int{9}}, 0, []api.Span{span(1, 1)}, [][]int{nil}, api.OK},
		{two(), 3, nil, nil, api.ErrUnknown},
		{two(), -1, nil, nil, api.ErrUnknown},
		{spoilt(), 3, nil, nil, api.ErrUnknown},
		{spoilt(), 0, nil, nil, api.ErrConflict},
	} {
		if got, e := chip.Places(x.r, x.mat); !slices.Equal(got, x.want) || e != x.e {
			t.Error(i, got, e)
		}
		if got, e := chip.Ahead(x.r, x.mat); !lists(got, x.ahead) || e != x.e {
			t.Error(i, got, e)
		}
	}
	for i, x := range []struct {
		r chip.Race
		s chip.Spot
		e api.Errno
	}{
		{two(), at(2, 0), api.ErrUnknown},
		{two(), at(-1, 0), api.ErrUnknown},
		{two(), at(0, 3), api.ErrUnknown},
		{spoilt(), at(0, -1), api.ErrUnknown},
		{spoilt(), at(0, 0), api.ErrConflict},
	} {
		for _, best := range []bool{false, true} {
			if times, offsets, e := chip.Placed(x.r, x.s, best); len(times)+len(offsets) > 0 || e != x.e {
				t.Error(i, times, offsets, e)
			}
		}
	}
}

// surely returns who is before a skier at a mat in all truths, and who in none, by gaps.
func surely(t *testing.T, r chip.Race, s chip.Spot) (ahead, never []int) {
	t.Helper()
	for other := range r.Starts {
		gap, e := chip.Gap(r, s, at(other, s.Mat))
		if e != api.OK {
			t.Fatal(r, s, other, e)
		}
		if gap.Hi < 0 {
			ahead = append(ahead, other)
		}
		if gap.Lo >= 0 && other != s.Skier {
			never = append(never, other)
		}
	}
	return ahead, never
}

// P6.4, P6.6, P0.7: places are reached by truths, and no better or worse ones
// could be: whoever is ahead in all truths is always before, and whoever is never
// ahead is not; and nobody who is ahead in all truths is behind in one.
func TestPlacesAreReached(t *testing.T) {
	g := rand.New(rand.NewSource(8))
	open := 0
	for i := range 300 {
		r := someRace(g, 1)
		if i%100 == 0 {
			r = someLarge(g, 0)
		}
		if _, _, e := chip.Truth(r); e != api.OK {
			continue
		}
		for mat := range len(r.Splits) + 1 {
			places, e := chip.Places(r, mat)
			ahead, f := chip.Ahead(r, mat)
			if e != api.OK || f != api.OK {
				t.Fatal(r, mat, e, f)
			}
			for skier, place := range places {
				s := at(skier, mat)
				before, never := surely(t, r, s)
				if place != span(1+len(before), len(r.Starts)-len(never)) || !slices.Equal(ahead[skier], before) {
					t.Fatal(r, s, place, before, never, ahead)
				}
				for k, best := range []bool{true, false} {
					times, offsets, e := chip.Placed(r, s, best)
					one := isOne(t, r, times, offsets, e)
					if one.place(s) != []int{place.Lo, place.Hi}[k] {
						t.Fatal(r, s, best, one, place)
					}
					for _, other := range before {
						if one.at(at(other, mat)) >= one.at(s) {
							t.Fatal(r, s, other, one)
						}
					}
				}
				if place.Lo < place.Hi {
					open++
				}
			}
		}
	}
	if open < 100 {
		t.Error(open)
	}
}

// P6.4: places of small races, as they are seen in all truths.
func TestPlacesOfAllTruths(t *testing.T) {
	g := rand.New(rand.NewSource(9))
	for range 400 {
		r := someRace(g, g.Intn(2))
		want := slow(r)
		for mat := range len(r.Splits) + 1 {
			places, e := chip.Places(r, mat)
			ahead, f := chip.Ahead(r, mat)
			if !want.sound {
				if e != api.ErrConflict || f != api.ErrConflict {
					t.Fatal(r, e, f)
				}
				continue
			}
			for skier := range r.Starts {
				var before []int
				for other := range r.Starts {
					if want.gaps[[2]chip.Spot{at(skier, mat), at(other, mat)}].Hi < 0 {
						before = append(before, other)
					}
				}
				if places[skier] != want.places[at(skier, mat)].Span || !slices.Equal(ahead[skier], before) {
					t.Fatal(r, mat, skier, places, ahead, e, f)
				}
			}
		}
	}
}

// P6.6: the best places of two skiers need not be reached in one truth: each of
// them passes just behind another one, and before that one could be only one of them.
func TestBestPlacesOfTwo(t *testing.T) {
	r := exact(4, span(0, 2), reading(0, 1, 0, 2), reading(2, 1, 0, 1), reading(1, 1, 1, 2), reading(3, 1, 1, 1))
	r.Clocks = []chip.Clock{{Offset: span(-2, 2)}, {Offset: span(-2, 2)}}
	if got, e := chip.Places(r, 1); !slices.Equal(got, []api.Span{span(2, 4), span(2, 4), span(1, 2), span(1, 2)}) || e != api.OK {
		t.Error(got, e)
	}
	var first, second, both int
	for one := range truths(r) {
		isFirst, isSecond := one.place(at(0, 1)) == 2, one.place(at(1, 1)) == 2
		first += flag(isFirst)
		second += flag(isSecond)
		both += flag(isFirst && isSecond)
	}
	if first == 0 || second == 0 || both > 0 {
		t.Error(first, second, both)
	}
}

// flag returns 1 for what is so.
func flag(is bool) int {
	if is {
		return 1
	}
	return 0
}
