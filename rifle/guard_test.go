package rifle_test

import (
	"math"
	"math/rand"
	"slices"
	"testing"

	"klister/api"
	"klister/rifle"
)

// guardErrors returns the errors of all functions of a guard and a span, the
// other arguments of which are refused with errors that come later.
func guardErrors(l []rifle.Hold, from, to int) []api.Errno {
	return []api.Errno{
		second(rifle.Gap(l, from, to)),
		second(rifle.Chain(l, from, to)),
		second(rifle.Marks(l, from, to)),
		second(rifle.Guards(l, from, to, []int{-1, 99})),
		second(rifle.MarksShow(l, from, to, []int{math.MaxInt})),
	}
}

// P7.4: what is no guard, and what is no span, in all functions.
func TestGuardErrors(t *testing.T) {
	hold := func(who, from, to int) []rifle.Hold { return []rifle.Hold{{Who: who, From: from, To: to}} }
	for i, x := range []struct {
		l []rifle.Hold
		e api.Errno
	}{
		{nil, api.ErrCount},
		{[]rifle.Hold{}, api.ErrCount},
		{make([]rifle.Hold, 31), api.ErrCount},
		{slices.Repeat(hold(-1, 0, 0), 31), api.ErrCount},
		{hold(-1, 0, 5), api.ErrRange},
		{hold(100, 0, 5), api.ErrRange},
		{hold(0, -1, 5), api.ErrRange},
		{hold(0, 6, 5), api.ErrRange},
		{hold(0, 0, 10001), api.ErrRange},
		{hold(0, 10001, 10001), api.ErrRange},
		{hold(0, 10001, 10000), api.ErrRange},
		{hold(0, math.MinInt, math.MaxInt), api.ErrRange},
		{append(hold(0, 0, 5), hold(0, 5, 4)...), api.ErrRange},
	} {
		if e := rifle.CheckGuard(x.l); e != x.e {
			t.Error(i, e)
		}
		for _, to := range []int{5, -1} {
			for k, e := range guardErrors(x.l, 0, to) {
				if e != x.e {
					t.Error(i, to, k, e)
				}
			}
		}
	}
	for i, s := range []api.Span{span(0, 0), span(5, 5), span(6, 5), span(-1, 5), span(0, 10001), span(10000, 10001), span(10000, 10000), span(math.MinInt, math.MaxInt), span(math.MaxInt, math.MinInt), span(-1, -1)} {
		for k, e := range guardErrors(five(), s.Lo, s.Hi) {
			if e != api.ErrRange {
				t.Error(i, k, e)
			}
		}
		if is, e := rifle.MarksShow(five(), s.Lo, s.Hi, nil); is || e != api.ErrRange {
			t.Error(i, is, e)
		}
	}
	for i, l := range [][]rifle.Hold{five(), make([]rifle.Hold, 30), holds(0, 0), holds(10000, 10000), hold(99, 0, 10000)} {
		if e := rifle.CheckGuard(l); e != api.OK {
			t.Error(i, e)
		}
	}
}

// isGuarded checks all that is known of a span of a guard whose first gap is
// that, or its last minute, and which needs so many holds.
func isGuarded(t *testing.T, l []rifle.Hold, from, to, first, n int) {
	t.Helper()
	g, e := rifle.Gap(l, from, to)
	chain, f := rifle.Chain(l, from, to)
	marks, h := rifle.Marks(l, from, to)
	if first < to {
		if g != first || e != api.OK || len(chain) > 0 || f != api.ErrNone || len(marks) > 0 || h != api.ErrNone {
			t.Fatal(l, from, to, g, e, chain, f, marks, h)
		}
		return
	}
	if g != 0 || e != api.ErrNone || len(chain) != n || f != api.OK || len(marks) != n || h != api.OK {
		t.Fatal(l, from, to, g, e, chain, f, marks, h)
	}
	var alone []rifle.Hold
	for _, k := range chain {
		alone = append(alone, l[k])
	}
	if !slices.IsSorted(chain) || gap(alone, from, to) < to || !areMarks(l, from, to, marks) {
		t.Fatal(l, from, to, chain, marks)
	}
	is, e := rifle.Guards(l, from, to, chain)
	are, f := rifle.MarksShow(l, from, to, marks)
	if !is || e != api.OK || !are || f != api.OK {
		t.Fatal(l, from, to, chain, is, e, marks, are, f)
	}
}

// P7.4: example 4 and edge cases: holds that touch, of no time, outside, and equal ones.
func TestGuards(t *testing.T) {
	for _, x := range []struct {
		l              []rifle.Hold
		from, to, g, n int
	}{
		{five(), 0, 60, 60, 3},
		{five(), 3, 55, 55, 3},
		{five(), 5, 30, 30, 1},
		{five(), 29, 60, 60, 1},
		{five(), 0, 61, 60, 0},
		{five(), 70, 80, 70, 0},
		{five()[:4], 0, 60, 40, 0},
		{holds(0, 10, 10, 20), 0, 20, 20, 2},
		{holds(10, 20, 0, 10), 0, 20, 20, 2},
		{holds(0, 10, 11, 20), 0, 20, 10, 0},
		{holds(0, 10, 10, 10, 11, 20), 0, 20, 10, 0},
		{holds(5, 5), 5, 6, 5, 0},
		{holds(5, 6), 5, 6, 6, 1},
		{holds(1, 9), 0, 5, 0, 0},
		{holds(0, 10000), 0, 10000, 10000, 1},
		{holds(0, 10000), 9999, 10000, 10000, 1},
		{holds(0, 4, 0, 4, 4, 8, 4, 8), 0, 8, 8, 2},
		{make([]rifle.Hold, 30), 0, 5, 0, 0},
	} {
		isGuarded(t, x.l, x.from, x.to, x.g, x.n)
	}
	if chain, e := rifle.Chain(five(), 0, 60); !slices.Equal(chain, []int{0, 1, 4}) || e != api.OK {
		t.Error(chain, e)
	}
	l := five()
	slices.Reverse(l)
	if chain, e := rifle.Chain(l, 0, 60); !slices.Equal(chain, []int{0, 3, 4}) || e != api.OK {
		t.Error(chain, e)
	}
}

// P7.4: what some holds alone guard, in any order, and what indices are refused.
func TestGuardsAlone(t *testing.T) {
	for i, x := range []struct {
		chain []int
		is    bool
		e     api.Errno
	}{
		{[]int{0, 1, 4}, true, api.OK},
		{[]int{4, 1, 0, 1, 4}, true, api.OK},
		{[]int{0, 1, 2, 3, 4}, true, api.OK},
		{[]int{0, 2, 3, 4}, true, api.OK},
		{[]int{0, 2, 4}, false, api.OK},
		{[]int{1, 4}, false, api.OK},
		{[]int{0, 1, 3}, false, api.OK},
		{nil, false, api.OK},
		{[]int{}, false, api.OK},
		{[]int{0, 1, 5}, false, api.ErrUnknown},
		{[]int{-1}, false, api.ErrUnknown},
		{[]int{0, 1, 4, math.MaxInt}, false, api.ErrUnknown},
		{[]int{math.MinInt, 0, 1, 4}, false, api.ErrUnknown},
		{slices.Repeat([]int{4, 0, 1}, 1000), true, api.OK},
	} {
		if is, e := rifle.Guards(five(), 0, 60, x.chain); is != x.is || e != x.e {
			t.Error(i, is, e)
		}
	}
}

// P7.4: which minutes are marks.
func TestMarksShow(t *testing.T) {
	for i, x := range []struct {
		marks []int
		is    bool
	}{
		{[]int{0, 10, 30}, true},
		{[]int{4, 28, 40}, true},
		{[]int{4, 29, 40}, false},
		{[]int{4, 7}, false},
		{[]int{4, 5}, false},
		{[]int{9, 10}, false},
		{[]int{10, 0}, false},
		{[]int{10, 10}, false},
		{[]int{0, 0}, false},
		{[]int{0}, true},
		{[]int{59}, true},
		{[]int{60}, false},
		{[]int{-1}, false},
		{[]int{math.MaxInt}, false},
		{[]int{math.MinInt}, false},
		{[]int{0, math.MaxInt}, false},
		{nil, true},
		{[]int{}, true},
	} {
		if is, e := rifle.MarksShow(five(), 0, 60, x.marks); is != x.is || e != api.OK {
			t.Error(i, is, e)
		}
	}
	for i, x := range []struct {
		from, to int
		is       bool
	}{{59, 60, true}, {59, 70, true}, {0, 59, false}, {60, 70, false}} {
		if is, e := rifle.MarksShow(five(), x.from, x.to, []int{59}); is != x.is || e != api.OK {
			t.Error(i, is, e)
		}
	}
	// Minutes that no hold covers can be marks, too.
	if is, e := rifle.MarksShow(holds(0, 1), 0, 9, []int{0, 1, 2, 3, 4, 5, 6, 7, 8}); !is || e != api.OK {
		t.Error(is, e)
	}
}

// P7.4: gaps, the fewest holds and marks are those of all sets of holds (P0.8, P7.7).
func TestGuardsOfAllSets(t *testing.T) {
	g := rand.New(rand.NewSource(6))
	needed := [5]int{}
	for range 4000 {
		l := someGuard(g, 10, 16, 4+g.Intn(6))
		from := g.Intn(4)
		to := from + 1 + g.Intn(16-from)
		first, n := gap(l, from, to), 0
		if first == to {
			n = few(l, from, to)
			needed[min(n, 4)]++
		}
		isGuarded(t, l, from, to, first, n)
		chain := make([]int, g.Intn(6))
		var alone []rifle.Hold
		for k := range chain {
			chain[k] = g.Intn(len(l))
			alone = append(alone, l[chain[k]])
		}
		if is, e := rifle.Guards(l, from, to, chain); is != (gap(alone, from, to) == to) || e != api.OK {
			t.Fatal(l, from, to, chain, is, e)
		}
		marks := make([]int, g.Intn(4))
		for k := range marks {
			marks[k] = g.Intn(18) - 1
		}
		if g.Intn(3) > 0 {
			slices.Sort(marks)
		}
		if are, e := rifle.MarksShow(l, from, to, marks); are != areMarks(l, from, to, marks) || e != api.OK {
			t.Fatal(l, from, to, marks, are, e)
		}
	}
	for n, times := range needed[1:] {
		if times < 20 {
			t.Error("few guards need as many holds", n+1, times)
		}
	}
}

// P7.4: of 30 holds, chains and marks prove each other to be the fewest and the most.
func TestLargeGuards(t *testing.T) {
	g := rand.New(rand.NewSource(7))
	proved := 0
	for range 100 {
		l := someGuard(g, 1, 200, 60)
		for range 29 {
			l = append(l, someGuard(g, 1, 10000, 2500)[0])
		}
		from := g.Intn(2000)
		to := from + 1 + g.Intn(8000)
		first := gap(l, from, to)
		chain, e := rifle.Chain(l, from, to)
		isGuarded(t, l, from, to, first, len(chain))
		if e == api.OK {
			proved++
		}
	}
	if proved < 20 {
		t.Fatal(proved)
	}
}
