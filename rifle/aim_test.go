package rifle_test

import (
	"math"
	"math/rand"
	"slices"
	"testing"

	"klister/api"
	"klister/rifle"
)

// aimErrors returns the errors of all functions of an aim, the other arguments
// of which are refused with errors that come later.
func aimErrors(a [][]int) []api.Errno {
	return []api.Errno{
		rifle.CheckAim(a),
		second(rifle.Misses(a, make([]int, 99))),
		second(rifle.Misses(a, nil)),
		third(rifle.Best(a, -1)),
		second(rifle.Curve(a)),
		second(rifle.Enough(a, -1)),
		second(rifle.Price(a, -1)),
		second(rifle.Holds(a, nil, -1)),
	}
}

// P7.5: what is no aim, and which of several errors comes first, in all functions.
func TestAimErrors(t *testing.T) {
	for i, x := range []struct {
		a [][]int
		e api.Errno
	}{
		{nil, api.ErrCount},
		{[][]int{}, api.ErrCount},
		{make([][]int, 9), api.ErrCount},
		{slices.Repeat([][]int{{5}}, 9), api.ErrCount},
		{[][]int{{5}, nil}, api.ErrCount},
		{[][]int{{5}, {}}, api.ErrCount},
		{[][]int{{5}, make([]int, 22)}, api.ErrCount},
		{[][]int{{1001}, nil}, api.ErrCount},
		{[][]int{{5, 6}, nil}, api.ErrCount},
		{[][]int{{1001}}, api.ErrRange},
		{[][]int{{-1}}, api.ErrRange},
		{[][]int{{5}, {5, math.MinInt}}, api.ErrRange},
		{[][]int{{math.MaxInt}}, api.ErrRange},
		{[][]int{{5, 6}, {-1}}, api.ErrRange},
		{[][]int{{5, 6, -1}}, api.ErrRange},
		{[][]int{{5, 6}}, api.ErrOrder},
		{[][]int{{5}, {9, 8, 9}}, api.ErrOrder},
		{[][]int{{10, 9, 7}}, api.ErrOrder},
		{[][]int{{10, 10, 9}}, api.ErrOrder},
		{[][]int{{10, 8, 6, 5, 3}}, api.ErrOrder},
	} {
		for k, e := range aimErrors(x.a) {
			if e != x.e {
				t.Error(i, k, e)
			}
		}
	}
	for i, a := range [][][]int{two(), {{0}}, {{1000}}, {{1000, 0}}, {make([]int, 21)}, {{10, 8, 6, 6}}, {{9, 8, 7, 6}}, {{1000, 0, 0}}, slices.Repeat([][]int{{5, 4}}, 8)} {
		if e := rifle.CheckAim(a); e != api.OK {
			t.Error(i, e)
		}
	}
}

// P7.5 and P7.6: misses of waits, and prices that hold, and what is refused.
func TestWaits(t *testing.T) {
	for i, x := range []struct {
		waits       []int
		price, want int
		is          bool
		e, f        api.Errno
	}{
		{[]int{2, 1}, 50, 550, true, api.OK, api.OK},
		{[]int{3, 0}, 50, 550, true, api.OK, api.OK},
		{[]int{2, 1}, 49, 550, false, api.OK, api.OK},
		{[]int{2, 1}, 51, 550, false, api.OK, api.OK},
		{[]int{1, 2}, 50, 620, false, api.OK, api.OK},
		{[]int{0, 0}, 200, 900, true, api.OK, api.OK},
		{[]int{0, 0}, 199, 900, false, api.OK, api.OK},
		{[]int{0, 0}, math.MaxInt, 900, true, api.OK, api.OK},
		{[]int{3, 2}, math.MaxInt, 470, false, api.OK, api.OK},
		{[]int{3, 2}, 0, 470, true, api.OK, api.OK},
		{[]int{3, 2}, 30, 470, true, api.OK, api.OK},
		{[]int{3, 2}, 31, 470, false, api.OK, api.OK},
		{[]int{2, 2}, 0, 520, false, api.OK, api.OK},
		{[]int{2, 1}, -1, 550, false, api.OK, api.ErrRange},
		{[]int{2, 1}, math.MinInt, 550, false, api.OK, api.ErrRange},
		{[]int{4, 1}, 0, 0, false, api.ErrRange, api.ErrRange},
		{[]int{2, 3}, 0, 0, false, api.ErrRange, api.ErrRange},
		{[]int{-1, 1}, 0, 0, false, api.ErrRange, api.ErrRange},
		{[]int{2, math.MaxInt}, -1, 0, false, api.ErrRange, api.ErrRange},
		{[]int{math.MinInt, 1}, 0, 0, false, api.ErrRange, api.ErrRange},
		{[]int{1}, 0, 0, false, api.ErrCount, api.ErrCount},
		{[]int{1, 1, 0}, 0, 0, false, api.ErrCount, api.ErrCount},
		{[]int{-1}, -1, 0, false, api.ErrCount, api.ErrCount},
		{nil, 0, 0, false, api.ErrCount, api.ErrCount},
		{[]int{}, 0, 0, false, api.ErrCount, api.ErrCount},
	} {
		n, e := rifle.Misses(two(), x.waits)
		is, f := rifle.Holds(two(), x.waits, x.price)
		if n != x.want || is != x.is || e != x.e || f != x.f {
			t.Error(i, n, is, e, f)
		}
	}
}

// P7.5 and P7.6: example 5, for each number of breaths, also for more than all.
func TestBest(t *testing.T) {
	curve, e := rifle.Curve(two())
	if !slices.Equal(curve, []int{900, 700, 600, 550, 500, 470}) || e != api.OK {
		t.Error(curve, e)
	}
	prices := []int{200, 100, 50, 50, 30, 0}
	for _, total := range []int{0, 1, 2, 3, 4, 5, 6, 1000, math.MaxInt} {
		k := min(total, 5)
		w, n, e := rifle.Best(two(), total)
		if breaths(w) > total || n != curve[k] || sum(two(), w) != n || e != api.OK {
			t.Error(total, w, n, e)
		}
		if p, e := rifle.Price(two(), total); p != prices[k] || e != api.OK {
			t.Error(total, p, e)
		}
	}
	for _, total := range []int{-1, math.MinInt} {
		if w, n, e := rifle.Best(two(), total); len(w) > 0 || n != 0 || e != api.ErrRange {
			t.Error(total, w, n, e)
		}
		if p, e := rifle.Price(two(), total); p != 0 || e != api.ErrRange {
			t.Error(total, p, e)
		}
	}
	if p, e := rifle.Price([][]int{{9, 4, 4, 4}, {7, 7}}, 1); p != 0 || e != api.OK {
		t.Error(p, e)
	}
	if p, e := rifle.Price([][]int{{7}}, 0); p != 0 || e != api.OK {
		t.Error(p, e)
	}
	if curve, e := rifle.Curve([][]int{{7}, {8}}); !slices.Equal(curve, []int{15}) || e != api.OK {
		t.Error(curve, e)
	}
	if curve, e := rifle.Curve([][]int{{7, 6, 6, 6}}); !slices.Equal(curve, []int{7, 6, 6, 6}) || e != api.OK {
		t.Error(curve, e)
	}
}

// P7.5: the least number of breaths with which there are no more misses.
func TestEnough(t *testing.T) {
	for i, x := range []struct {
		misses, want int
		e            api.Errno
	}{
		{math.MaxInt, 0, api.OK},
		{901, 0, api.OK},
		{900, 0, api.OK},
		{899, 1, api.OK},
		{700, 1, api.OK},
		{699, 2, api.OK},
		{550, 3, api.OK},
		{549, 4, api.OK},
		{470, 5, api.OK},
		{469, 0, api.ErrNone},
		{0, 0, api.ErrNone},
		{-1, 0, api.ErrNone},
		{math.MinInt, 0, api.ErrNone},
	} {
		if n, e := rifle.Enough(two(), x.misses); n != x.want || e != x.e {
			t.Error(i, n, e)
		}
	}
	if n, e := rifle.Enough([][]int{{3, 0, 0, 0}}, 0); n != 1 || e != api.OK {
		t.Error(n, e)
	}
}

// P7.5 and P7.6: the best waits, curves, breaths that are enough, and prices are
// those of all waits (P0.8, P7.7).
func TestBestOfAllWaits(t *testing.T) {
	g := rand.New(rand.NewSource(8))
	for range 400 {
		a := someAim(g, 3, 5, 7)
		curve, e := rifle.Curve(a)
		most := 0
		for _, l := range a {
			most += len(l) - 1
		}
		if len(curve) != most+1 || e != api.OK {
			t.Fatal(a, curve, e)
		}
		for total := range most + 2 {
			isBest(t, a, total, curve[min(total, most)])
		}
		for misses := range curve[0] + 2 {
			isEnough(t, a, misses, most)
		}
	}
}

// isBest checks the best waits of so many breaths in all, which have so many misses.
func isBest(t *testing.T, a [][]int, total, misses int) {
	t.Helper()
	all := best(a, total)
	w, n, e := rifle.Best(a, total)
	if n != sum(a, all[0]) || n != misses || e != api.OK || !slices.ContainsFunc(all, func(x []int) bool { return slices.Equal(x, w) }) {
		t.Fatal(a, total, w, n, e)
	}
	price := 0
	for !slices.ContainsFunc(all, func(x []int) bool { return isPrice(a, x, price) }) {
		price++
	}
	p, e := rifle.Price(a, total)
	if p != price || e != api.OK {
		t.Fatal(a, total, p, price, e)
	}
	for _, x := range all {
		if is, e := rifle.Holds(a, x, p); !is || e != api.OK || !isPrice(a, x, p) {
			t.Fatal(a, total, x, p, is, e)
		}
	}
}

// isEnough checks with how many breaths of so many there are no more than so many misses.
func isEnough(t *testing.T, a [][]int, misses, most int) {
	t.Helper()
	want := 0
	for ; want <= most && sum(a, best(a, want)[0]) > misses; want++ {
	}
	n, e := rifle.Enough(a, misses)
	if want > most && (n != 0 || e != api.ErrNone) || want <= most && (n != want || e != api.OK) {
		t.Fatal(a, misses, n, want, e)
	}
}

// P7.6: which prices hold for any waits; for those for which one holds no others
// of at most as many breaths have fewer misses, and with 0 none at all.
func TestHoldsOfAllWaits(t *testing.T) {
	g := rand.New(rand.NewSource(9))
	held := 0
	for range 300 {
		a := someAim(g, 3, 4, 6)
		for w := range allWaits(a) {
			for price := range 8 {
				is, e := rifle.Holds(a, w, price)
				if is != isPrice(a, w, price) || e != api.OK {
					t.Fatal(a, w, price, is, e)
				}
				if !is {
					continue
				}
				held++
				total := breaths(w)
				if price == 0 {
					total = math.MaxInt
				}
				if sum(a, best(a, total)[0]) < sum(a, w) {
					t.Fatal(a, w, price)
				}
			}
		}
	}
	if held < 1000 {
		t.Fatal(held)
	}
}

// P7.5 and P7.6: of large aims prices prove that the waits are best, and each
// breath more that is allowed helps no more than the one before it (P7.7).
func TestLargeAims(t *testing.T) {
	g := rand.New(rand.NewSource(10))
	for range 30 {
		a := someAim(g, 8, 21, 48)
		curve, e := rifle.Curve(a)
		if e != api.OK {
			t.Fatal(a, e)
		}
		for total, n := range curve {
			w, m, e := rifle.Best(a, total)
			p, f := rifle.Price(a, total)
			if breaths(w) > total || m != n || sum(a, w) != n || e != api.OK || f != api.OK || !isPrice(a, w, p) {
				t.Fatal(a, total, w, m, p, e, f)
			}
			// As the waits use all breaths, or the price is 0, no others are better.
			if breaths(w) < total && p != 0 || p > 0 && isPrice(a, w, p-1) {
				t.Fatal(a, total, w, p)
			}
			if is, e := rifle.Holds(a, w, p); !is || e != api.OK {
				t.Fatal(a, w, p, is, e)
			}
			if total > 1 && curve[total-1]-n > curve[total-2]-curve[total-1] {
				t.Fatal(a, curve)
			}
		}
	}
}
