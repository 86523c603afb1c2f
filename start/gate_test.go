package start_test

import (
	"math"
	"math/rand"
	"slices"
	"testing"

	"klister/api"
	"klister/start"
)

// timed returns a start list of these times, without gates.
func timed(times ...int) []start.Start {
	l := make([]start.Start, len(times))
	for i, time := range times {
		l[i] = start.Start{Bib: i + 1, Time: time}
	}
	return l
}

// gatedBy returns a list with these gates.
func gatedBy(l []start.Start, gates ...int) []start.Start {
	for i := range l {
		l[i].Gate = gates[i]
	}
	return l
}

// callsOfList calls each function that has the errors of CheckList, with other
// arguments that it refuses too, and returns what each returns, and whether all
// else is zero.
func callsOfList(l []start.Start) (errors []api.Errno, zero bool) {
	gates, e1 := start.Gates(l, 0)
	gated, e2 := start.Gated(l, 0)
	is, e3 := start.Clear(l, 0)
	crowd, e4 := start.Crowd(l, 0)
	crowds, e5 := start.Crowds(l, 0, nil)
	left, e6 := start.Withdraw(l, 0)
	more, e7 := start.Enter(l, 0, 0)
	zero = gates == 0 && len(gated)+len(crowd)+len(left)+len(more) == 0 && !is && !crowds
	return []api.Errno{start.CheckList(l), e1, e2, e3, e4, e5, e6, e7}, zero
}

// P2.6: start lists at the ends of what is allowed.
func TestCheckListAllows(t *testing.T) {
	for i, l := range [][]start.Start{
		nil,
		{},
		timed(make([]int, 60)...),
		timed(0, 0, 5, 5, 360000),
		gatedBy(timed(0, 1), 0, 60),
		{{Bib: 999, Time: 360000, Gate: 60}},
		{{Bib: 2, Time: 1, Gate: 1}, {Bib: 1, Time: 1, Gate: 1}},
	} {
		if e := start.CheckList(l); e != api.OK {
			t.Error(i, e)
		}
	}
}

// P2.6 and P2.8: what is not allowed, and which error is first, in all calls
// with the errors of CheckList.
func TestCheckListRefuses(t *testing.T) {
	one := func(n int, change func(s *start.Start)) []start.Start {
		l := gatedBy(timed(10, 10, 30, 50), 1, 2, 3, 0)
		change(&l[n])
		return l
	}
	twice := func(l []start.Start) []start.Start { l[3].Bib = 1; return l }
	for i, x := range []struct {
		l    []start.Start
		want api.Errno
	}{
		{timed(make([]int, 61)...), api.ErrCount},
		{make([]start.Start, 61), api.ErrCount},
		{one(0, func(s *start.Start) { s.Bib = 0 }), api.ErrRange},
		{one(3, func(s *start.Start) { s.Bib = 1000 }), api.ErrRange},
		{one(0, func(s *start.Start) { s.Time = -1 }), api.ErrRange},
		{one(3, func(s *start.Start) { s.Time = 360001 }), api.ErrRange},
		{one(3, func(s *start.Start) { s.Time = math.MinInt }), api.ErrRange},
		{one(2, func(s *start.Start) { s.Gate = -1 }), api.ErrRange},
		{one(2, func(s *start.Start) { s.Gate = 61 }), api.ErrRange},
		{one(2, func(s *start.Start) { s.Gate = math.MaxInt }), api.ErrRange},
		{twice(one(1, func(s *start.Start) { s.Gate = 61 })), api.ErrRange},
		{twice(one(0, func(s *start.Start) { s.Time = 360001 })), api.ErrRange},
		{twice(one(0, func(s *start.Start) { s.Time = 11 })), api.ErrTwice},
		{one(3, func(s *start.Start) { s.Bib = 3 }), api.ErrTwice},
		{one(0, func(s *start.Start) { s.Time = 11 }), api.ErrOrder},
		{one(3, func(s *start.Start) { s.Time = 29 }), api.ErrOrder},
	} {
		errors, zero := callsOfList(x.l)
		for j, e := range errors {
			if e != x.want {
				t.Error(i, j, e)
			}
		}
		if !zero {
			t.Error(i, "a result beside an error")
		}
	}
}

// P2.6: the clear time at the ends of what is allowed, in all five calls.
func TestClearTimes(t *testing.T) {
	l := gatedBy(timed(0, 6000), 1, 1)
	for i, x := range []struct {
		clear int
		want  api.Errno
	}{
		{0, api.ErrRange}, {-1, api.ErrRange}, {6001, api.ErrRange}, {math.MinInt, api.ErrRange}, {math.MaxInt, api.ErrRange}, {1, api.OK}, {6000, api.OK},
	} {
		n, e1 := start.Gates(l, x.clear)
		gated, e2 := start.Gated(l, x.clear)
		is, e3 := start.Clear(l, x.clear)
		crowd, e4 := start.Crowd(l, x.clear)
		crowds, e5 := start.Crowds(l, x.clear, nil)
		for j, e := range []api.Errno{e1, e2, e3, e4, e5} {
			if e != x.want {
				t.Error(i, j, e)
			}
		}
		good := x.want == api.OK
		if (n == 1) != good || (len(gated) == 2) != good || is != good || (len(crowd) == 1) != good || crowds != good {
			t.Error(i, n, gated, is, crowd, crowds)
		}
	}
}

// checkGates compares what is said of the gates of a list with the terms, and
// returns the fewest gates.
func checkGates(t *testing.T, l []start.Start, clear int) int {
	n, e := start.Gates(l, clear)
	gated, f := start.Gated(l, clear)
	if len(gated) != len(l) || !clearOf(gated, clear) || e != api.OK || f != api.OK {
		t.Fatal(l, clear, n, gated, e, f)
	}
	for i, s := range gated {
		if s.Bib != l[i].Bib || s.Time != l[i].Time || s.Gate < 1 || s.Gate > n {
			t.Fatal(l, clear, n, gated)
		}
	}
	crowd, e := start.Crowd(l, clear)
	crowds, f := start.Crowds(l, clear, crowd)
	is, g := start.Clear(gated, clear)
	if len(crowd) != n || !crowdOf(l, clear, crowd) || !crowds || !is || e != api.OK || f != api.OK || g != api.OK {
		t.Fatal(l, clear, n, crowd, crowds, is, e, f, g)
	}
	return n
}

// P2.6: example 3 of the chapter, and lists around the ends of the clear time.
func TestGates(t *testing.T) {
	pursuit, e := start.Pursuit(four(), start.Rules{Unit: 10, Limit: 600})
	if e != api.OK {
		t.Fatal(e)
	}
	l := timed(10, 10, 30, 49, 50)
	for i, x := range []struct {
		l           []start.Start
		clear, want int
	}{
		{pursuit, 1, 2}, {pursuit, 50, 2}, {pursuit, 51, 3}, {pursuit, 550, 3}, {pursuit, 551, 3}, {pursuit, 600, 3}, {pursuit, 601, 4},
		{l, 1, 2}, {l, 19, 2}, {l, 20, 2}, {l, 21, 3}, {l, 39, 3}, {l, 40, 4}, {l, 41, 5}, {l, 6000, 5},
		{nil, 1, 0}, {timed(360000), 6000, 1}, {timed(make([]int, 60)...), 1, 60}, {timed(0, 1, 2, 3), 1, 1}, {timed(0, 1, 2, 3), 2, 2},
	} {
		if got := checkGates(t, x.l, x.clear); got != x.want {
			t.Error(i, got)
		}
	}
}

// P2.6: whether lists have clear gates.
func TestClear(t *testing.T) {
	times := []int{10, 10, 30, 49, 50}
	for i, x := range []struct {
		clear int
		gates []int
		want  bool
	}{
		{20, []int{1, 2, 1, 2, 3}, true},
		{20, []int{1, 2, 1, 2, 1}, true},
		{21, []int{1, 2, 1, 2, 1}, false},
		{21, []int{1, 2, 3, 2, 1}, true},
		{41, []int{1, 2, 3, 2, 1}, false},
		{1, []int{1, 1, 1, 1, 1}, false},
		{1, []int{60, 2, 1, 1, 1}, true},
		{1, []int{1, 2, 3, 4, 0}, false},
		{1, []int{0, 2, 3, 4, 5}, false},
		{6000, []int{5, 4, 3, 2, 1}, true},
	} {
		if got, e := start.Clear(gatedBy(timed(times...), x.gates...), x.clear); got != x.want || e != api.OK {
			t.Error(i, got, e)
		}
	}
	if got, e := start.Clear(nil, 1); !got || e != api.OK {
		t.Error(got, e)
	}
}

// P2.6: whether bibs are a crowd, in any order, and of any list (R9).
func TestCrowds(t *testing.T) {
	l := timed(10, 10, 30, 49, 50)
	for i, x := range []struct {
		clear int
		bibs  []int
		want  bool
	}{
		{21, nil, true},
		{21, []int{4}, true},
		{21, []int{1, 2, 3}, true},
		{21, []int{3, 1, 2}, true},
		{21, []int{5, 3, 4}, true},
		{20, []int{1, 2, 3}, false},
		{20, []int{3, 1}, false},
		{20, []int{3, 4}, true},
		{21, []int{1, 3, 4}, false},
		{21, []int{1, 1}, false},
		{21, []int{1, 2, 1}, false},
		{21, []int{6}, false},
		{21, []int{1, 6}, false},
		{21, []int{0}, false},
		{21, []int{math.MinInt, math.MaxInt}, false},
		{6000, []int{5, 4, 3, 2, 1}, true},
		{6000, []int{5, 4, 3, 2, 1, 5}, false},
		{6000, make([]int, 100000), false},
		{6000, slices.Repeat([]int{1, 2, 3, 4, 5}, 10000), false},
	} {
		if got, e := start.Crowds(l, x.clear, x.bibs); got != x.want || e != api.OK {
			t.Error(i, got, e)
		}
	}
	empty, e := start.Crowds(nil, 1, nil)
	one, f := start.Crowds(nil, 1, []int{1})
	if !empty || one || e != api.OK || f != api.OK {
		t.Error(empty, one, e, f)
	}
}

// P2.6 and P2.10: small lists, against all gates and all sets of bibs.
func TestGatesOfSmallLists(t *testing.T) {
	g := rand.New(rand.NewSource(5))
	for range 400 {
		l, clear := someList(g, g.Intn(6), 1+g.Intn(20)), 1+g.Intn(12)
		if got := checkGates(t, l, clear); got != gatesOf(l, clear) {
			t.Fatal(l, clear, got, gatesOf(l, clear))
		}
		if got, e := start.Clear(l, clear); got != clearOf(l, clear) || e != api.OK {
			t.Fatal(l, clear, got, e)
		}
		for _, set := range subsets(len(l)) {
			bibs := make([]int, len(set))
			for i, place := range set {
				bibs[i] = l[place].Bib
			}
			g.Shuffle(len(bibs), func(i, j int) { bibs[i], bibs[j] = bibs[j], bibs[i] })
			if got, e := start.Crowds(l, clear, bibs); got != crowdOf(l, clear, bibs) || e != api.OK {
				t.Fatal(l, clear, bibs, got, e)
			}
		}
	}
}

// P2.10: lists of all sizes, for which a crowd proves that fewer gates are not enough.
func TestGatesOfLargeLists(t *testing.T) {
	g := rand.New(rand.NewSource(6))
	for range 2000 {
		checkGates(t, someList(g, g.Intn(61), 1+g.Intn(20000)), 1+g.Intn(6000))
	}
}

// P2.6: arguments are not modified, and results are new (R4).
func TestGateMemory(t *testing.T) {
	l, bibs := timed(10, 10, 30), []int{2, 1}
	for i := range 2 {
		gated, _ := start.Gated(l, 20)
		crowd, _ := start.Crowd(l, 20)
		start.Crowds(l, 20, bibs)
		if !clearOf(gated, 20) || len(crowd) != 2 {
			t.Error(i, gated, crowd)
		}
		clear(gated)
		clear(crowd)
	}
	if !slices.Equal(l, timed(10, 10, 30)) || !slices.Equal(bibs, []int{2, 1}) {
		t.Error("an argument is modified", l, bibs)
	}
}
