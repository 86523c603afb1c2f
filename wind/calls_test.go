package wind_test

import (
	"math"
	"math/rand"
	"reflect"
	"slices"
	"testing"

	"klister/api"
	"klister/wind"
)

// anyone returns numbers at which something ends, or that no one would pass.
type anyone struct{ *rand.Rand }

func (g anyone) number() int {
	all := []int{math.MinInt, -1001, -1000, -301, -300, -7, -6, -2, -1, 0, 0, 0, 1, 1, 1, 2, 2, 3, 4, 5, 6, 7, 12, 13, 20, 21, 100, 101, 200, 201, 300, 301, 600, 601, 1000, 1001, 6000, 6001, wind.MaxValue, wind.MaxValue + 1, math.MaxInt}
	return all[g.Intn(len(all))]
}

// list returns a list with few numbers, none, or too many.
func (g anyone) list() []int {
	sizes := []int{0, 1, 1, 2, 2, 3, 3, 4, 5, 5, 5, 6, 8, 20, 21, 22, 23, 60}
	var l []int
	for range sizes[g.Intn(len(sizes))] {
		l = append(l, g.number())
	}
	return l
}

func (g anyone) table() [][]int {
	var l [][]int
	for range g.Intn(7) {
		l = append(l, g.list())
	}
	return l
}

func (g anyone) spans() []api.Span {
	if g.Intn(2) == 0 {
		return someWinds(g.Rand)
	}
	var l []api.Span
	for range g.Intn(8) {
		l = append(l, span(g.number(), g.number()))
	}
	return l
}

// target returns a range whose numbers are mostly allowed.
func (g anyone) target() wind.Range {
	r := someRange(g.Rand, 1+g.Intn(5))
	switch g.Intn(20) {
	case 0:
		r.Radius = g.number()
	case 1:
		r.Unit = g.number()
	case 2:
		r.Clicks = g.number()
	case 3:
		r.Total = g.number()
	case 4:
		r.Group = g.list()
	case 5:
		r.Drifts = g.list()
	case 6:
		r.First = g.list()
	case 7:
		r.Next = g.table()
	case 8:
		r.Next[0] = g.list()
	case 9:
		r = wind.Range{Radius: g.number(), Unit: g.number(), Clicks: g.number(), Total: g.number(), Group: g.list(), Drifts: g.list(), First: g.list(), Next: g.table()}
	}
	return r
}

// rules returns rules that are mostly allowed.
func (g anyone) rules() wind.Rules {
	p := someRules(g.Rand)
	if g.Intn(6) == 0 {
		p = wind.Rules{Miss: g.number(), Click: g.number(), Wait: g.number(), Waits: g.number()}
	}
	return p
}

// flag is 1 if something is so.
func flag(is bool) int {
	if is {
		return 1
	}
	return 0
}

// P0.1: no call panics, all end, and beside an error all results are zero (R2).
func TestAllArguments(t *testing.T) {
	g := anyone{rand.New(rand.NewSource(14))}
	zero := func(e api.Errno, results ...int) {
		t.Helper()
		for _, n := range results {
			if e != api.OK && n != 0 {
				t.Fatal("a result beside an error", e, results)
			}
		}
	}
	for range 3000 {
		r, p, click, state := g.target(), g.rules(), g.number(), g.number()
		chances, e := wind.Chances(r)
		zero(e, len(chances))
		hit, e := wind.Hit(r, state, click)
		zero(e, hit.N, hit.D)
		expected, e := wind.Expected(r, click)
		zero(e, expected.N, expected.D)
		best, n, e := wind.Best(r)
		zero(e, best, n.N, n.D)
		winds := g.spans()
		worst, n, e := wind.Worst(r, winds, click)
		zero(e, len(worst), n.N, n.D)
		robust, n, e := wind.Robust(r, winds)
		zero(e, robust, n.N, n.D)
		against, e := wind.Against(r, winds)
		zero(e, len(against))
		shown, e := wind.Shows(r, winds, g.table())
		zero(e, shown.N, shown.D)
		values, e := wind.Values(r, p)
		zero(e, len(values))
		proved, e := wind.Proves(r, p, g.list())
		zero(e, proved.N, proved.D)
		choice, e := wind.Choose(r, p, g.number(), g.number(), state, click)
		zero(e, flag(choice.Wait), choice.Click)
		play, e := wind.Follow(r, p, g.list(), g.list())
		zero(e, play.Misses, play.Cost, play.Steps)
		read, e := wind.Drift(winds, g.list())
		zero(e, read.Lo, read.Hi)
		set, e := wind.Zero(r, g.list())
		zero(e, set)
	}
}

// copyOf returns a copy of a range.
func copyOf(r wind.Range) wind.Range {
	r.Group, r.Drifts, r.First = slices.Clone(r.Group), slices.Clone(r.Drifts), slices.Clone(r.First)
	r.Next = slices.Clone(r.Next)
	for i, l := range r.Next {
		r.Next[i] = slices.Clone(l)
	}
	return r
}

// R4: arguments are not modified, and results are new.
func TestMemory(t *testing.T) {
	r, winds := two(true), five(0, 3)
	kept := copyOf(r)
	values, _ := wind.Values(r, moving)
	numbers := slices.Clone(values)
	for range 2 {
		chances, _ := wind.Chances(r)
		worst, _, _ := wind.Worst(r, winds, 0)
		against, _ := wind.Against(r, winds)
		again, _ := wind.Values(r, moving)
		if len(chances) != 5 || chances[4][1] != q(1, 2) || !slices.Equal(worst, []int{3, 3, 3, 3, 3}) || !slices.Equal(again, numbers) {
			t.Fatal(chances, worst, again)
		}
		if shown, e := wind.Shows(r, winds, against); shown != q(5, 4) || e != api.OK {
			t.Fatal(against, shown, e)
		}
		states, offsets, impacts := []int{0, 0, 0, 0, 0}, []int{0, 1, 0, -1, 0}, []int{5, 4, -1}
		wind.Best(r)
		wind.Robust(r, winds)
		wind.Proves(r, moving, values)
		wind.Follow(r, moving, states, offsets)
		wind.Zero(r, impacts)
		if !slices.Equal(values, numbers) || !slices.Equal(winds, five(0, 3)) || sumOf(states) != 0 ||
			!slices.Equal(offsets, []int{0, 1, 0, -1, 0}) || !slices.Equal(impacts, []int{5, 4, -1}) || !reflect.DeepEqual(r, kept) {
			t.Fatal("an argument was modified")
		}
		for k := range 5 {
			chances[k][0], chances[k][1] = q(9, 1), q(9, 1)
			worst[k] = 9
		}
		for _, l := range against {
			clear(l)
		}
		clear(again)
	}
	if !reflect.DeepEqual(r, kept) || !slices.Equal(winds, five(0, 3)) {
		t.Error("a result is an argument")
	}
}

// R4: no two lists of a result share memory.
func TestResultsApart(t *testing.T) {
	chances, _ := wind.Chances(two(true))
	against, _ := wind.Against(two(true), five(0, 0))
	for i, l := range chances {
		l[0] = q(i, 1)
	}
	for i, l := range against {
		l[0] = i
	}
	for i, l := range chances {
		if l[0] != q(i, 1) {
			t.Error(chances)
		}
	}
	for i, l := range against {
		if l[0] != i {
			t.Error(against)
		}
	}
}

// R3: an empty list is none.
func TestEmptyLists(t *testing.T) {
	r := two(false)
	r.Group = []int{}
	if e := wind.Check(r); e != api.ErrCount {
		t.Error(e)
	}
	for i, e := range []api.Errno{
		second(wind.Drift([]api.Span{}, []int{})),
		second(wind.Shows(two(false), five(0, 3), [][]int{})),
		second(wind.Proves(two(false), still, []int{})),
		second(wind.Follow(two(false), still, nil, []int{})),
	} {
		if e != api.ErrCount {
			t.Error(i, e)
		}
	}
	if e := second(wind.Follow(two(false), still, []int{}, make([]int, 5))); e != api.ErrNone {
		t.Error(e)
	}
	if click, e := wind.Zero(two(false), []int{}); click != 0 || e != api.OK {
		t.Error(click, e)
	}
}

// second returns the second one of two results.
func second[T any](_ T, e api.Errno) api.Errno { return e }
