package rifle_test

import (
	"math"
	"math/rand"
	"slices"
	"testing"

	"klister/api"
	"klister/rifle"
)

// P7.2: the rifles of examples 1 and 2 that pass and that are open, and edge cases.
func TestPassedAndOpen(t *testing.T) {
	exact := func(rifles ...int) rifle.Scale {
		return rifle.Scale{Least: 3500, Tests: tests(1, 1), Rifles: rifles}
	}
	for i, x := range []struct {
		s            rifle.Scale
		passed, open []int
	}{
		{four(), []int{0, 1}, []int{3}},
		{less(), []int{0, 1}, []int{2, 3}},
		{seven(), nil, []int{0, 1, 2, 3, 4, 5, 6}},
		{exact(3499, 3500, 3501, 0, 20000), []int{1, 2, 4}, nil},
		{rifle.Scale{Least: 1, Rifles: []int{0, 1000, 1001, 20000}}, []int{2, 3}, []int{0, 1}},
		{rifle.Scale{Least: 1001, Rifles: []int{0, 1}}, nil, []int{1}},
		{rifle.Scale{Error: 1, Least: 1001, Rifles: []int{0, 2001, 2002}}, []int{2}, []int{0, 1}},
	} {
		p, e := rifle.Passed(x.s)
		o, f := rifle.Open(x.s)
		if !slices.Equal(p, x.passed) || !slices.Equal(o, x.open) || e != api.OK || f != api.OK {
			t.Error(i, p, o, e, f)
		}
	}
}

// P7.2 and P7.3: what passes, what is open, and the fewest checks are those of
// all truths, one by one, and of all checks; and plans have this depth, and
// decide (P0.8, P7.7).
func TestPlansOfAllTruths(t *testing.T) {
	g := rand.New(rand.NewSource(2))
	depths := [rifle.MaxRifles + 1]int{}
	for range 800 {
		s := sound(g, 5)
		all := outcomes(s)
		var passed []int
		for k := range s.Rifles {
			if len(with(all, k, false)) == 0 {
				passed = append(passed, k)
			}
		}
		p, e := rifle.Passed(s)
		o, f := rifle.Open(s)
		if !slices.Equal(p, passed) || !slices.Equal(o, opens(s, all)) || e != api.OK || f != api.OK {
			t.Fatal(s, p, o, e, f)
		}
		want := fewest(s, all)
		n, e := rifle.Fewest(s)
		if n != want || e != api.OK {
			t.Fatal(s, n, want, e)
		}
		depths[n]++
		isPlan(t, s, n)
	}
	for n, times := range depths[:6] {
		if times == 0 {
			t.Error("no scale needs as many checks", n)
		}
	}
}

// isPlan checks the plan of a scale that needs so many checks.
func isPlan(t *testing.T, s rifle.Scale, n int) {
	t.Helper()
	plan, e := rifle.Plan(s)
	if e != api.OK || len(plan) > rifle.MaxNodes {
		t.Fatal(s, plan, e)
	}
	for k, x := range plan {
		isNext := func(next int) bool { return next == rifle.None || next > k && next < len(plan) }
		if x.Rifle < 0 || x.Rifle >= len(s.Rifles) || !isNext(x.Pass) || !isNext(x.Fail) {
			t.Fatal(s, plan)
		}
	}
	if most, decides := depth(s, plan); most != n || !decides {
		t.Fatal(s, plan, most, decides)
	}
	if most, e := rifle.Depth(s, plan); most != n || e != api.OK {
		t.Fatal(s, plan, most, e)
	}
}

// P7.3: examples 1 to 3, edge cases, and scales of eight rifles.
func TestFewest(t *testing.T) {
	near := func(e int, tests []rifle.Test, rifles ...int) rifle.Scale {
		return rifle.Scale{Error: e, Least: 3500, Tests: tests, Rifles: rifles}
	}
	same := slices.Repeat([]int{3500}, 8)
	steps := []int{3500, 3510, 3520, 3530, 3540, 3550, 3560, 3570}
	for i, x := range []struct {
		s    rifle.Scale
		want int
	}{
		{four(), 1},
		{less(), 2},
		{seven(), 3},
		{near(0, tests(1, 1), 3500, 3499), 0},
		{near(0, nil, 3500), 1},
		{near(0, nil, same...), 1},
		{near(1, tests(1, 1), same...), 8},
		{near(100, nil, same...), 8},
		{near(0, nil, steps...), 4},
		{near(4, nil, steps...), 4},
		{near(5, nil, steps...), 4},
		{near(100, nil, steps...), 8},
		{near(1, nil, 3500, 3502), 2},
		{near(0, nil, 1000, 5000), 0},
		{near(0, nil, 2500, 4499), 2},
		{near(0, nil, 2500, 4500), 1},
		{near(0, nil, 2499, 4500), 0},
	} {
		n, e := rifle.Fewest(x.s)
		if n != x.want || e != api.OK {
			t.Error(i, n, e)
		}
		isPlan(t, x.s, x.want)
	}
	plan, _ := rifle.Plan(seven())
	if plan[0].Rifle != 3 {
		t.Error(plan)
	}
	plan, _ = rifle.Plan(four())
	if !slices.Equal(plan, []rifle.Node{node(3, rifle.None, rifle.None)}) {
		t.Error(plan)
	}
	if plan, e := rifle.Plan(near(0, tests(1, 1), 3500, 3499)); len(plan) != 0 || e != api.OK {
		t.Error(plan, e)
	}
}

// P7.3: the plans of scales of eight rifles have the depth that is the fewest, and decide.
func TestLargePlans(t *testing.T) {
	g := rand.New(rand.NewSource(3))
	for range 40 {
		s := rifle.Scale{Error: g.Intn(20), Least: 3500}
		for range rifle.MaxRifles {
			s.Rifles = append(s.Rifles, 3500+g.Intn(60))
		}
		n, e := rifle.Fewest(s)
		if e != api.OK || n < 1 || n > rifle.MaxRifles {
			t.Fatal(s, n, e)
		}
		isPlan(t, s, n)
	}
}

// P7.3: what is no plan, and plans that do not decide, with the depths of others.
func TestDepth(t *testing.T) {
	none := rifle.None
	all := []rifle.Node{node(3, 1, 2), node(1, 3, 4), node(5, 5, 6), node(0, none, none), node(2, none, none), node(4, none, none), node(6, none, none)}
	cut := slices.Clone(all)
	cut[2].Fail = none
	long := make([]rifle.Node, 300)
	for k := range long {
		long[k] = node(3, k+1, k+1)
	}
	long[299] = node(3, none, none)
	for i, x := range []struct {
		s    rifle.Scale
		plan []rifle.Node
		want int
		e    api.Errno
	}{
		{four(), []rifle.Node{node(3, none, none)}, 1, api.OK},
		{four(), []rifle.Node{node(0, 1, none), node(3, none, none)}, 2, api.OK},
		{four(), []rifle.Node{node(2, none, 1), node(3, none, none)}, 2, api.OK},
		{four(), []rifle.Node{node(0, none, 1), node(3, none, none)}, 0, api.ErrWrong},
		{four(), []rifle.Node{node(2, 1, none), node(3, none, none)}, 0, api.ErrWrong},
		{four(), []rifle.Node{node(3, 1, none), node(3, 2, none), node(3, none, none)}, 3, api.OK},
		{four(), []rifle.Node{node(3, none, 1), node(3, 2, none), node(3, none, none)}, 2, api.OK},
		{four(), []rifle.Node{node(3, 2, none), node(0, none, none), node(1, none, none)}, 2, api.OK},
		{four(), nil, 0, api.ErrWrong},
		{four(), []rifle.Node{}, 0, api.ErrWrong},
		{less(), []rifle.Node{node(2, 1, 1), node(3, none, none)}, 2, api.OK},
		{less(), []rifle.Node{node(3, 1, 1), node(2, none, none)}, 2, api.OK},
		{less(), []rifle.Node{node(2, 1, none), node(3, none, none)}, 0, api.ErrWrong},
		{less(), []rifle.Node{node(2, none, 1), node(3, none, none)}, 0, api.ErrWrong},
		{less(), []rifle.Node{node(2, none, none)}, 0, api.ErrWrong},
		{seven(), all, 3, api.OK},
		{seven(), cut, 0, api.ErrWrong},
		{four(), long, 300, api.OK},
		{rifle.Scale{Least: 3500, Tests: tests(1, 1), Rifles: []int{3500}}, nil, 0, api.OK},
		{rifle.Scale{Least: 3500, Tests: tests(1, 1), Rifles: []int{3500}}, []rifle.Node{node(0, none, none)}, 1, api.OK},
		{four(), make([]rifle.Node, 301), 0, api.ErrCount},
		{four(), slices.Repeat([]rifle.Node{node(9, none, none)}, 301), 0, api.ErrCount},
		{four(), []rifle.Node{node(4, none, none)}, 0, api.ErrUnknown},
		{four(), []rifle.Node{node(-1, none, none)}, 0, api.ErrUnknown},
		{four(), []rifle.Node{node(math.MaxInt, none, none)}, 0, api.ErrUnknown},
		{four(), []rifle.Node{node(3, 0, none)}, 0, api.ErrUnknown},
		{four(), []rifle.Node{node(3, none, 0)}, 0, api.ErrUnknown},
		{four(), []rifle.Node{node(3, 1, none)}, 0, api.ErrUnknown},
		{four(), []rifle.Node{node(3, none, 1)}, 0, api.ErrUnknown},
		{four(), []rifle.Node{node(3, -2, none)}, 0, api.ErrUnknown},
		{four(), []rifle.Node{node(3, none, math.MinInt)}, 0, api.ErrUnknown},
		{four(), []rifle.Node{node(3, none, math.MaxInt)}, 0, api.ErrUnknown},
		{four(), []rifle.Node{node(3, none, none), node(3, 1, none)}, 0, api.ErrUnknown},
		{four(), []rifle.Node{node(3, none, none), node(3, none, 0)}, 0, api.ErrUnknown},
		{four(), []rifle.Node{node(3, none, none), node(9, none, none)}, 0, api.ErrUnknown},
		{four(), []rifle.Node{node(0, none, none), node(9, none, none)}, 0, api.ErrUnknown},
	} {
		if n, e := rifle.Depth(x.s, x.plan); n != x.want || e != x.e {
			t.Error(i, n, e)
		}
	}
}

// P7.3: the depths of any plans are those of all truths, one by one: checks that
// are made again, and nodes that are reached in several ways, are counted right.
func TestDepthsOfAllTruths(t *testing.T) {
	g := rand.New(rand.NewSource(4))
	wrong, right := 0, 0
	for range 6000 {
		s := sound(g, 3)
		plan := make([]rifle.Node, g.Intn(9))
		next := func(k int) int {
			if left := len(plan) - 1 - k; left > 0 && g.Intn(6) > 0 {
				return k + 1 + g.Intn(min(left, 2))
			}
			return rifle.None
		}
		for k := range plan {
			plan[k] = node(g.Intn(len(s.Rifles)), next(k), next(k))
		}
		most, decides := depth(s, plan)
		n, e := rifle.Depth(s, plan)
		if !decides {
			wrong++
			if n != 0 || e != api.ErrWrong {
				t.Fatal(s, plan, n, e)
			}
			continue
		}
		if few, _ := rifle.Fewest(s); n != most || e != api.OK || n < few {
			t.Fatal(s, plan, n, most, few, e)
		}
		right++
	}
	if wrong < 500 || right < 500 {
		t.Fatal(wrong, right)
	}
}

// P7.3: a plan of 300 nodes that part and meet again is followed in time.
func TestDepthOfLongPlan(t *testing.T) {
	s := rifle.Scale{Error: 100, Least: 3500, Rifles: slices.Repeat([]int{3500}, 8)}
	plan := make([]rifle.Node, 300)
	for k := range plan {
		plan[k] = node(k%8, k+1, k+1)
	}
	plan[299] = node(0, rifle.None, rifle.None)
	if n, e := rifle.Depth(s, plan); n != 300 || e != api.OK {
		t.Error(n, e)
	}
}

// P7.7: a test more never widens the offset, and what reads more than a rifle
// that passes in all truths, by twice the Error or more, passes in all, too.
func TestWhatFollowsOfScales(t *testing.T) {
	g := rand.New(rand.NewSource(5))
	for range 300 {
		s := sound(g, 5)
		o, _ := rifle.Offset(s)
		more := s
		more.Tests = append(slices.Clone(s.Tests), rifle.Test{Mass: 4000, Reading: 4000 + o.Lo + g.Intn(6) - 3})
		if p, e := rifle.Offset(more); e == api.OK && (p.Lo < o.Lo || p.Hi > o.Hi) {
			t.Fatal(s, o, p)
		}
		passed, _ := rifle.Passed(s)
		for k, a := range s.Rifles {
			for _, b := range passed {
				if a >= s.Rifles[b]+2*s.Error && !slices.Contains(passed, k) {
					t.Fatal(s, passed)
				}
			}
		}
	}
}
