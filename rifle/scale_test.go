package rifle_test

import (
	"math"
	"math/rand"
	"slices"
	"testing"

	"klister/api"
	"klister/rifle"
)

// second and third return the last one of two, and of three results.
func second[T any](_ T, e api.Errno) api.Errno { return e }

func third[S, T any](_ S, _ T, e api.Errno) api.Errno { return e }

// scaleErrors returns the errors of all functions of scales but Check and Clash,
// the other arguments of which are refused with errors that come later.
func scaleErrors(s rifle.Scale) []api.Errno {
	return []api.Errno{
		second(rifle.Offset(s)),
		second(rifle.Weights(s)),
		second(rifle.Passed(s)),
		second(rifle.Open(s)),
		second(rifle.Fewest(s)),
		second(rifle.Plan(s)),
		second(rifle.Depth(s, make([]rifle.Node, 301))),
		second(rifle.Depth(s, []rifle.Node{{Rifle: -1}})),
		second(rifle.Depth(s, []rifle.Node{node(0, 0, 7)})),
	}
}

// P7.1: what is refused, and which of several errors comes first, in all functions.
func TestCheckRefuses(t *testing.T) {
	for i, x := range []struct {
		change func(s *rifle.Scale)
		e      api.Errno
	}{
		{func(s *rifle.Scale) { *s = rifle.Scale{} }, api.ErrCount},
		{func(s *rifle.Scale) { s.Rifles = []int{} }, api.ErrCount},
		{func(s *rifle.Scale) { s.Rifles = make([]int, 9) }, api.ErrCount},
		{func(s *rifle.Scale) { s.Tests = slices.Repeat(s.Tests[:1], 11) }, api.ErrCount},
		{func(s *rifle.Scale) { s.Rifles = nil; s.Error = -1 }, api.ErrCount},
		{func(s *rifle.Scale) { s.Rifles = nil; s.Tests[0].Mass = 0 }, api.ErrCount},
		{func(s *rifle.Scale) { s.Rifles = make([]int, 9); s.Least = 0 }, api.ErrCount},
		{func(s *rifle.Scale) { s.Tests = make([]rifle.Test, 11) }, api.ErrCount},
		{func(s *rifle.Scale) { s.Error = -1 }, api.ErrRange},
		{func(s *rifle.Scale) { s.Error = 101 }, api.ErrRange},
		{func(s *rifle.Scale) { s.Error = math.MaxInt }, api.ErrRange},
		{func(s *rifle.Scale) { s.Least = 0 }, api.ErrRange},
		{func(s *rifle.Scale) { s.Least = 10001 }, api.ErrRange},
		{func(s *rifle.Scale) { s.Least = math.MinInt }, api.ErrRange},
		{func(s *rifle.Scale) { s.Tests[1].Mass = 0 }, api.ErrRange},
		{func(s *rifle.Scale) { s.Tests[1].Mass = 10001 }, api.ErrRange},
		{func(s *rifle.Scale) { s.Tests[1].Mass = math.MinInt }, api.ErrRange},
		{func(s *rifle.Scale) { s.Tests[1].Reading = -1 }, api.ErrRange},
		{func(s *rifle.Scale) { s.Tests[1].Reading = 20001 }, api.ErrRange},
		{func(s *rifle.Scale) { s.Tests[1].Reading = math.MaxInt }, api.ErrRange},
		{func(s *rifle.Scale) { s.Rifles[3] = -1 }, api.ErrRange},
		{func(s *rifle.Scale) { s.Rifles[3] = 20001 }, api.ErrRange},
		{func(s *rifle.Scale) { s.Rifles[3] = math.MinInt }, api.ErrRange},
		{func(s *rifle.Scale) { s.Tests[0].Reading = 2009; s.Least = 0 }, api.ErrRange},
	} {
		s := four()
		x.change(&s)
		if e := rifle.Check(s); e != x.e {
			t.Error(i, e)
		}
		if a, b, e := rifle.Clash(s); a != 0 || b != 0 || e != x.e {
			t.Error(i, a, b, e)
		}
		for k, e := range scaleErrors(s) {
			if e != x.e {
				t.Error(i, k, e)
			}
		}
	}
}

// P7.1: all limits can be reached.
func TestCheckAccepts(t *testing.T) {
	for i, s := range []rifle.Scale{
		{Error: 0, Least: 1, Rifles: []int{0}},
		{Error: 100, Least: 10000, Rifles: []int{20000}},
		{Error: 100, Least: 1, Tests: slices.Repeat(tests(1, 0), 10), Rifles: make([]int, 8)},
		{Error: 0, Least: 1, Tests: tests(10000, 9000, 10000, 9000), Rifles: []int{0, 20000}},
		{Error: 100, Least: 1, Tests: tests(10000, 20000), Rifles: []int{0}},
		four(), less(), seven(),
	} {
		if e := rifle.Check(s); e != api.OK {
			t.Error(i, e)
		}
	}
}

// P7.1: the offsets of examples and edge cases, and tests that contradict each
// other: the first such pair, also with itself, and with one that has no offset.
func TestOffsets(t *testing.T) {
	for i, x := range []struct {
		tests  []rifle.Test
		offset api.Span
		a, b   int
		clash  bool
	}{
		{tests(1000, 1005, 2000, 2009), span(7, 7), 0, 0, false},
		{tests(1000, 1005), span(3, 7), 0, 0, false},
		{nil, span(-1000, 1000), 0, 0, false},
		{[]rifle.Test{}, span(-1000, 1000), 0, 0, false},
		{tests(1000, 1005, 2000, 2010), span(0, 0), 0, 1, true},
		{tests(1000, 1005, 2000, 2009, 3000, 3012), span(0, 0), 0, 2, true},
		{tests(1000, 1000, 1000, 1004, 1000, 1004, 1000, 1009), span(0, 0), 0, 3, true},
		{tests(1000, 1004, 1000, 1000, 1000, 1007), span(0, 0), 1, 2, true},
		{tests(1000, 1002, 1000, 1000, 1000, 1004, 1000, 1005), span(0, 0), 1, 3, true},
		{tests(1000, 2002), span(1000, 1000), 0, 0, false},
		{tests(1000, 2001), span(999, 1000), 0, 0, false},
		{tests(2000, 998), span(-1000, -1000), 0, 0, false},
		{tests(2000, 997), span(0, 0), 0, 0, true},
		{tests(1000, 2003), span(0, 0), 0, 0, true},
		{tests(1000, 1005, 1000, 2003), span(0, 0), 0, 1, true},
		{tests(1000, 2003, 1000, 1005), span(0, 0), 0, 0, true},
		{tests(1000, 2003, 1000, 2003), span(0, 0), 0, 0, true},
		{tests(1000, 20000, 9000, 0), span(0, 0), 0, 0, true},
		{slices.Repeat(tests(1000, 1005), 10), span(3, 7), 0, 0, false},
	} {
		s := four()
		s.Tests = x.tests
		o, e := rifle.Offset(s)
		a, b, f := rifle.Clash(s)
		if x.clash {
			if o != x.offset || e != api.ErrConflict || a != x.a || b != x.b || f != api.OK {
				t.Error(i, o, e, a, b, f)
			}
			for k, e := range scaleErrors(s) {
				if e != api.ErrConflict {
					t.Error(i, k, e)
				}
			}
			continue
		}
		if o != x.offset || e != api.OK || a != 0 || b != 0 || f != api.ErrNone {
			t.Error(i, o, e, a, b, f)
		}
	}
}

// P7.1: offsets, clashes and weights are those of all truths, one by one; each
// weight between both ends is that of some truth (P7.7).
func TestOffsetsOfAllTruths(t *testing.T) {
	g := rand.New(rand.NewSource(1))
	clashes, sounds := 0, 0
	for range 1500 {
		s := someScale(g, 3)
		all := offsets(s, s.Tests...)
		o, e := rifle.Offset(s)
		a, b, f := rifle.Clash(s)
		i, j, contradict := clash(s)
		if contradict != (len(all) == 0) {
			t.Fatal(s, all, i, j)
		}
		if contradict {
			clashes++
			if o != span(0, 0) || e != api.ErrConflict || a != i || b != j || f != api.OK {
				t.Fatal(s, o, e, a, b, f)
			}
			continue
		}
		sounds++
		if o != span(all[0], all[len(all)-1]) || e != api.OK || a != 0 || b != 0 || f != api.ErrNone {
			t.Fatal(s, o, e, a, b, f)
		}
		weights, e := rifle.Weights(s)
		if len(weights) != len(s.Rifles) || e != api.OK {
			t.Fatal(s, weights, e)
		}
		for k, w := range weights {
			all := allWeights(s, k)
			if w != span(all[0], all[len(all)-1]) || len(all) != w.Hi-w.Lo+1 {
				t.Fatal(s, k, w, all)
			}
		}
	}
	if clashes < 200 || sounds < 200 {
		t.Fatal(clashes, sounds)
	}
}

// P7.1: the weights of examples 1 and 2, and at the limits, also less than 0.
func TestWeights(t *testing.T) {
	for i, x := range []struct {
		s    rifle.Scale
		want []api.Span
	}{
		{four(), []api.Span{span(3501, 3505), span(3500, 3504), span(3495, 3499), span(3497, 3501)}},
		{less(), []api.Span{span(3501, 3509), span(3500, 3508), span(3495, 3503), span(3497, 3505)}},
		{rifle.Scale{Least: 1, Rifles: []int{0}}, []api.Span{span(-1000, 1000)}},
		{rifle.Scale{Error: 100, Least: 1, Rifles: []int{0, 20000}}, []api.Span{span(-1100, 1100), span(18900, 21100)}},
		{rifle.Scale{Least: 3500, Tests: tests(1, 1), Rifles: []int{3500}}, []api.Span{span(3500, 3500)}},
	} {
		if w, e := rifle.Weights(x.s); !slices.Equal(w, x.want) || e != api.OK {
			t.Error(i, w, e)
		}
	}
}
