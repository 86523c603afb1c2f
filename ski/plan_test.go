package ski_test

import (
	"math"
	"math/rand"
	"slices"
	"testing"

	"klister/api"
	"klister/ski"
)

// isNext reports whether a further run is one that is the best: A less than B, the
// Lead 0, and worth as few further runs as there are.
func isNext(l ski.Lab, k int, r ski.Run, fewest int) bool {
	n, e := ski.Worth(l, k, r.A, r.B)
	return r.A < r.B && r.Lead == 0 && n == fewest && e == api.OK
}

// P5.4: example 2 of the chapter, no runs at all, places that are known, and what is refused.
func TestPlans(t *testing.T) {
	for i, x := range []struct {
		l      ski.Lab
		k      int
		known  bool
		fewest int
		e      api.Errno
	}{
		{four(), 1, true, 0, api.OK},
		{four(), 2, false, 1, api.OK},
		{four(), 3, false, 2, api.OK},
		{four(), 4, false, 2, api.OK},
		{four(), 0, false, 0, api.ErrRange},
		{four(), 5, false, 0, api.ErrRange},
		{four(), -1, false, 0, api.ErrRange},
		{four(), math.MaxInt, false, 0, api.ErrRange},
		{four(), math.MinInt, false, 0, api.ErrRange},
		{lab(1), 1, true, 0, api.OK},
		{lab(1), 2, false, 0, api.ErrRange},
		{lab(2), 1, false, 1, api.OK},
		{lab(2), 2, false, 1, api.OK},
		{lab(2, run(1, 0, 1)), 1, true, 0, api.OK},
		{lab(2, run(1, 0, 1)), 2, true, 0, api.OK},
		{lab(3), 1, false, 2, api.OK},
		{lab(3), 2, false, 3, api.OK},
		{lab(3), 3, false, 3, api.OK},
		{lab(3, run(0, 2, 1), run(1, 2, 1)), 1, false, 1, api.OK},
		{lab(3, run(0, 2, 1), run(1, 2, 1)), 3, false, 1, api.OK},
		{lab(3, run(2, 0, 1), run(2, 1, 1)), 1, true, 0, api.OK},
		{lab(3, run(2, 0, 1), run(2, 1, 1)), 2, false, 1, api.OK},
		{lab(4), 1, false, 3, api.OK},
		{lab(4), 2, false, 4, api.OK},
		{lab(4), 3, false, 5, api.OK},
		{lab(4), 4, false, 5, api.OK},
		{lab(5), 1, false, 4, api.OK},
		{lab(5), 2, false, 6, api.OK},
		{lab(5), 3, false, 7, api.OK},
		{lab(5), 4, false, 7, api.OK},
		{lab(5), 5, false, 7, api.OK},
		{round(), 1, false, 0, api.ErrConflict},
		{round(), 4, false, 0, api.ErrConflict},
		{round(), 5, false, 0, api.ErrRange},
		{round(), 0, false, 0, api.ErrRange},
	} {
		known, e := ski.Known(x.l, x.k)
		fewest, f := ski.Fewest(x.l, x.k)
		if known != x.known || fewest != x.fewest || e != x.e || f != x.e {
			t.Error(i, known, fewest, e, f)
		}
		want := x.e
		if x.known {
			want = api.ErrNone
		}
		next, e := ski.Next(x.l, x.k)
		if e != want || e == api.OK && !isNext(x.l, x.k, next, fewest) || e != api.OK && next != run(0, 0, 0) {
			t.Error(i, next, e)
		}
	}
}

// P5.4: what each next run is worth: those of which it is known what they will show also, and what is refused.
func TestWorth(t *testing.T) {
	for i, x := range []struct {
		l       ski.Lab
		k, a, b int
		want    int
		e       api.Errno
	}{
		{four(), 4, 1, 3, 2, api.OK},
		{four(), 4, 3, 1, 2, api.OK},
		{four(), 4, 2, 3, 2, api.OK},
		{four(), 4, 0, 1, 3, api.OK},
		{four(), 4, 1, 0, 3, api.OK},
		{four(), 4, 0, 2, 3, api.OK},
		{four(), 4, 2, 0, 3, api.OK},
		{four(), 2, 1, 3, 1, api.OK},
		{four(), 2, 2, 3, 2, api.OK},
		{four(), 1, 0, 1, 1, api.OK},
		{four(), 1, 2, 3, 1, api.OK},
		{lab(2), 1, 1, 0, 1, api.OK},
		{lab(2, run(0, 1, 1)), 2, 1, 0, 1, api.OK},
		{lab(4, run(0, 1, 1)), 1, 0, 1, 3, api.OK},
		{lab(4, run(0, 1, 1)), 1, 2, 3, 2, api.OK},
		{lab(4, run(0, 1, 1)), 1, 1, 2, 3, api.OK},
		{lab(4, run(0, 1, 1)), 1, 0, 2, 2, api.OK},
		{four(), 4, 1, 1, 0, api.ErrUnknown},
		{four(), 4, 1, 4, 0, api.ErrUnknown},
		{four(), 4, 4, 1, 0, api.ErrUnknown},
		{four(), 4, -1, 1, 0, api.ErrUnknown},
		{four(), 4, 1, -1, 0, api.ErrUnknown},
		{four(), 1, math.MinInt, math.MaxInt, 0, api.ErrUnknown},
		{lab(1), 1, 0, 0, 0, api.ErrUnknown},
		{lab(1), 1, 0, 1, 0, api.ErrUnknown},
	} {
		if got, e := ski.Worth(x.l, x.k, x.a, x.b); got != x.want || e != x.e {
			t.Error(i, got, e)
		}
	}
}

// P5.4: which of several errors comes first.
func TestPlanRefuses(t *testing.T) {
	six := lab(6, run(0, 1, 1), run(1, 0, 1))
	for i, x := range []struct {
		l     ski.Lab
		k     int
		known api.Errno
		plans api.Errno
	}{
		{six, 0, api.ErrRange, api.ErrRange},
		{six, 7, api.ErrRange, api.ErrRange},
		{six, 6, api.ErrConflict, api.ErrLarge},
		{lab(6), 1, api.OK, api.ErrLarge},
		{lab(8), 8, api.OK, api.ErrLarge},
		{round(), 4, api.ErrConflict, api.ErrConflict},
		{lab(5, run(0, 1, 1), run(1, 0, 1)), 1, api.ErrConflict, api.ErrConflict},
	} {
		for k, e := range []api.Errno{
			second(ski.Known(x.l, x.k)),
			second(ski.Fewest(x.l, x.k)),
			second(ski.Worth(x.l, x.k, -1, -1)),
			second(ski.Next(x.l, x.k)),
		} {
			if k == 0 && e != x.known || k > 0 && e != x.plans {
				t.Error(i, k, e)
			}
		}
	}
}

// P5.4: whether places are known, also of more skis than a plan has, as in the slow reading.
func TestKnownOfAll(t *testing.T) {
	g := rand.New(rand.NewSource(10))
	both := [2]int{}
	for range 500 {
		l := someSound(g, 1+g.Intn(6), 12)
		if g.Intn(2) == 0 { // a chain of most skis, so that some places are known
			for s := range l.Skis - 1 {
				if g.Intn(5) > 0 {
					l.Runs = append(l.Runs, run(s, s+1, 9))
				}
			}
		}
		if contradictory(l) {
			continue
		}
		all := fitting(l)
		for k := 1; k <= l.Skis; k++ {
			want := agreed(all, k)
			if got, e := ski.Known(l, k); got != want || e != api.OK {
				t.Fatal(l, k, got, e)
			}
			both[flag(want)]++
		}
	}
	if both[0] < 100 || both[1] < 100 {
		t.Error(both)
	}
}

// flag is 1 if something is so.
func flag(is bool) int {
	if is {
		return 1
	}
	return 0
}

// P5.4: the fewest further runs, what each next one is worth, and the next one, as in the slow reading.
func TestPlansOfAll(t *testing.T) {
	g := rand.New(rand.NewSource(11))
	for range 200 {
		l := someSound(g, 1+g.Intn(5), 6)
		all := fitting(l)
		if len(all) > 30 { // too slow a reading for many
			continue
		}
		for k := 1; k <= l.Skis; k++ {
			slow := game{k, map[string]int{}}
			want := slow.fewest(all)
			fewest, e := ski.Fewest(l, k)
			if fewest != want || e != api.OK {
				t.Fatal(l, k, fewest, want, e)
			}
			for a := range l.Skis {
				for b := range l.Skis {
					if a == b {
						continue
					}
					if n, e := ski.Worth(l, k, a, b); n != slow.worth(all, a, b) || e != api.OK {
						t.Fatal(l, k, a, b, n, e)
					}
				}
			}
			next, e := ski.Next(l, k)
			if want == 0 && e != api.ErrNone || want > 0 && (e != api.OK || !isNext(l, k, next, want)) {
				t.Fatal(l, k, next, e)
			}
		}
	}
}

// P5.7: no choice of further runs is sure to need fewer: after the one that Next returns one run
// fewer is enough, whatever it shows, and after any other one no two fewer are.
func TestNextIsEnough(t *testing.T) {
	g := rand.New(rand.NewSource(12))
	for range 150 {
		l := someSound(g, 2+g.Intn(4), 5)
		k := 1 + g.Intn(l.Skis)
		fewest, _ := ski.Fewest(l, k)
		next, e := ski.Next(l, k)
		if e == api.ErrNone {
			continue
		}
		for a := range l.Skis {
			for b := a + 1; b < l.Skis; b++ {
				most := 0
				for _, lead := range []int{l.Error + 1, -l.Error - 1} {
					n, e := ski.Fewest(more(l, run(a, b, lead)), k)
					if e == api.OK {
						most = max(most, n)
					}
				}
				if most < fewest-1 || run(a, b, 0) == next && most != fewest-1 {
					t.Fatal(l, k, a, b, most, fewest)
				}
			}
		}
	}
}

// P5.7: to follow Next to the end needs no more runs than were said, whatever the runs show, and then the places are known.
func TestNextToTheEnd(t *testing.T) {
	g := rand.New(rand.NewSource(13))
	for range 60 {
		l := someSound(g, 2+g.Intn(4), 3)
		k := 1 + g.Intn(l.Skis)
		fewest, _ := ski.Fewest(l, k)
		truth := g.Perm(l.Skis)
		for !slices.ContainsFunc(fitting(l), func(order []int) bool { return slices.Equal(order, truth) }) {
			truth = g.Perm(l.Skis)
		}
		for range fewest {
			next, e := ski.Next(l, k)
			if e != api.OK {
				break
			}
			next.Lead = l.Error + 1
			if before(truth, next.B, next.A) {
				next.Lead = -next.Lead
			}
			l = more(l, next)
		}
		if known, e := ski.Known(l, k); !known || e != api.OK {
			t.Fatal(l, k, known, e)
		}
	}
}
