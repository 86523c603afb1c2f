package rifle_test

import (
	"math"
	"math/rand"
	"reflect"
	"slices"
	"testing"

	"klister/api"
	"klister/rifle"
)

// anyone returns numbers at which something ends, or that no one would pass.
type anyone struct{ *rand.Rand }

func (g anyone) number() int {
	all := []int{math.MinInt, -1001, -1000, -101, -2, -1, 0, 0, 0, 0, 1, 1, 1, 2, 2, 3, 4, 7, 8, 9, 10, 20, 21, 22, 30, 31, 99, 100, 101, 300, 1000, 1001, 10000, 10001, 20000, 20001, math.MaxInt}
	return all[g.Intn(len(all))]
}

// scale returns a scale that is mostly allowed.
func (g anyone) scale() rifle.Scale {
	s := someScale(g.Rand, 4)
	switch g.Intn(14) {
	case 0:
		s.Error = g.number()
	case 1:
		s.Least = g.number()
	case 2:
		s.Tests = append(s.Tests, rifle.Test{Mass: g.number(), Reading: g.number()})
	case 3:
		s.Tests = append(s.Tests, make([]rifle.Test, g.Intn(14))...)
	case 4:
		s.Rifles = append(s.Rifles, g.number())
	case 5:
		s.Rifles = make([]int, g.Intn(12))
	}
	return s
}

// plan returns nodes that are mostly a plan.
func (g anyone) plan() []rifle.Node {
	plan := make([]rifle.Node, g.Intn(6))
	for k := range plan {
		plan[k] = node(g.Intn(2), k+1, k+1)
		if k+1 == len(plan) {
			plan[k] = node(0, rifle.None, rifle.None)
		}
	}
	switch g.Intn(8) {
	case 0:
		plan = append(plan, node(g.number(), g.number(), g.number()))
	case 1:
		plan = append(plan, make([]rifle.Node, 300)...)
	}
	return plan
}

// guard returns a guard that is mostly allowed.
func (g anyone) guard() []rifle.Hold {
	l := someGuard(g.Rand, 9, 16, 9)
	switch g.Intn(8) {
	case 0:
		l = append(l, rifle.Hold{Who: g.number(), From: g.number(), To: g.number()})
	case 1:
		l = append(l, make([]rifle.Hold, g.Intn(40))...)
	case 2:
		l = nil
	}
	return l
}

// numbers returns a list of a few numbers.
func (g anyone) numbers() []int {
	var list []int
	for range g.Intn(4) {
		list = append(list, g.number())
	}
	return list
}

// aim returns an aim that is mostly allowed.
func (g anyone) aim() [][]int {
	a := someAim(g.Rand, 3, 5, 9)
	switch g.Intn(8) {
	case 0:
		a = append(a, g.numbers())
	case 1:
		a = append(a, make([][]int, g.Intn(12))...)
	case 2:
		a[0] = append(a[0], make([]int, g.Intn(30))...)
	case 3:
		a = nil
	}
	return a
}

// P0.1: no call panics, all end, and beside an error all results are zero (R2).
func TestAllArguments(t *testing.T) {
	g := anyone{rand.New(rand.NewSource(11))}
	zero := func(e api.Errno, results ...int) {
		t.Helper()
		for _, n := range results {
			if e != api.OK && n != 0 {
				t.Fatal("a result beside an error", e, results)
			}
		}
	}
	not := func(is bool, e api.Errno) {
		t.Helper()
		if is && e != api.OK {
			t.Fatal("a result beside an error", e)
		}
	}
	for range 4000 {
		s, l, a, from, to := g.scale(), g.guard(), g.aim(), g.number(), g.number()
		rifle.Check(s)
		o, e := rifle.Offset(s)
		zero(e, o.Lo, o.Hi)
		i, j, e := rifle.Clash(s)
		zero(e, i, j)
		weights, e := rifle.Weights(s)
		zero(e, len(weights))
		list, e := rifle.Passed(s)
		zero(e, len(list))
		list, e = rifle.Open(s)
		zero(e, len(list))
		n, e := rifle.Fewest(s)
		zero(e, n)
		plan, e := rifle.Plan(s)
		zero(e, len(plan))
		n, e = rifle.Depth(s, g.plan())
		zero(e, n)
		rifle.CheckGuard(l)
		n, e = rifle.Gap(l, from, to)
		zero(e, n)
		list, e = rifle.Chain(l, from, to)
		zero(e, len(list))
		list, e = rifle.Marks(l, from, to)
		zero(e, len(list))
		not(rifle.Guards(l, from, to, g.numbers()))
		not(rifle.MarksShow(l, from, to, g.numbers()))
		rifle.CheckAim(a)
		n, e = rifle.Misses(a, g.numbers())
		zero(e, n)
		list, n, e = rifle.Best(a, to)
		zero(e, len(list), n)
		list, e = rifle.Curve(a)
		zero(e, len(list))
		n, e = rifle.Enough(a, to)
		zero(e, n)
		n, e = rifle.Price(a, to)
		zero(e, n)
		not(rifle.Holds(a, g.numbers(), to))
	}
}

// R4: arguments are not modified, and results are new.
func TestMemory(t *testing.T) {
	s, l, a := less(), five(), two()
	slices.Reverse(l)
	kept := slices.Clone(l)
	plan, chain, marks, waits := []rifle.Node{node(2, 1, 1), node(3, rifle.None, rifle.None)}, []int{4, 1, 0, 3}, []int{0, 10, 30}, []int{2, 1}
	for range 2 {
		weights, _ := rifle.Weights(s)
		passed, _ := rifle.Passed(s)
		open, _ := rifle.Open(s)
		made, _ := rifle.Plan(s)
		used, _ := rifle.Chain(l, 0, 60)
		needed, _ := rifle.Marks(l, 0, 60)
		best, _, _ := rifle.Best(a, 3)
		curve, _ := rifle.Curve(a)
		if weights[0] != span(3501, 3509) || !slices.Equal(passed, []int{0, 1}) || !slices.Equal(open, []int{2, 3}) || len(made) == 0 || !slices.Equal(used, []int{0, 3, 4}) || !areMarks(l, 0, 60, needed) || sum(a, best) != 550 || curve[5] != 470 {
			t.Fatal(weights, passed, open, made, used, needed, best, curve)
		}
		clear(weights)
		clear(made)
		for _, list := range [][]int{passed, open, used, needed, best, curve} {
			clear(list)
		}
		rifle.Depth(s, plan)
		rifle.Guards(l, 0, 60, chain)
		rifle.MarksShow(l, 0, 60, marks)
		rifle.Misses(a, waits)
		rifle.Holds(a, waits, 50)
		if !reflect.DeepEqual(s, less()) || !slices.Equal(l, kept) || !reflect.DeepEqual(a, two()) ||
			!slices.Equal(plan, []rifle.Node{node(2, 1, 1), node(3, -1, -1)}) || !slices.Equal(chain, []int{4, 1, 0, 3}) || !slices.Equal(marks, []int{0, 10, 30}) || !slices.Equal(waits, []int{2, 1}) {
			t.Fatal("an argument was modified")
		}
	}
}

// R6: all results are the same at each call.
func TestSameResults(t *testing.T) {
	g := rand.New(rand.NewSource(12))
	for range 200 {
		s, l, a := someScale(g, 5), someGuard(g, 9, 16, 9), someAim(g, 3, 5, 9)
		all := func() []any {
			weights, e := rifle.Weights(s)
			n, f := rifle.Fewest(s)
			plan, h := rifle.Plan(s)
			results := []any{weights, e, n, f, plan, h}
			chain, e := rifle.Chain(l, 2, 9)
			marks, f := rifle.Marks(l, 2, 9)
			results = append(results, chain, e, marks, f)
			best, n, e := rifle.Best(a, 4)
			price, f := rifle.Price(a, 4)
			return append(results, best, n, e, price, f)
		}
		if first := all(); !reflect.DeepEqual(first, all()) {
			t.Fatal(s, l, a, first)
		}
	}
}
