package wind_test

import (
	"math"
	"math/big"
	"math/rand"
	"slices"
	"testing"

	"klister/api"
	"klister/wind"
)

// moving are the rules of the chapter's fifth example, still those of the fourth.
var (
	moving = wind.Rules{Miss: 240, Click: 100, Wait: 30, Waits: 1}
	still  = wind.Rules{Miss: 240, Click: 20}
)

// dear are rules at the upper ends.
func dear() wind.Rules { return wind.Rules{Miss: 6000, Click: 600, Wait: 600, Waits: 3} }

// P4.4: rules at the ends of what is allowed.
func TestCheckRulesAllows(t *testing.T) {
	for i, p := range []wind.Rules{{}, dear(), moving, still, {Miss: 6000}, {Click: 600}, {Wait: 600}, {Waits: 3}} {
		if e := wind.CheckRules(two(false), p); e != api.OK {
			t.Error(i, e)
		}
	}
}

// P4.4 and P4.5: rules that are not allowed, in all calls with their errors, before all others.
func TestCheckRulesRefuses(t *testing.T) {
	for i, p := range []wind.Rules{
		{Miss: -1}, {Miss: 6001}, {Miss: math.MinInt}, {Miss: math.MaxInt},
		{Click: -1}, {Click: 601}, {Click: math.MinInt}, {Click: math.MaxInt},
		{Wait: -1}, {Wait: 601}, {Wait: math.MinInt}, {Wait: math.MaxInt},
		{Waits: -1}, {Waits: 4}, {Waits: math.MinInt}, {Waits: math.MaxInt},
		{Miss: 240, Click: 20, Wait: 601, Waits: 1},
	} {
		values, e1 := wind.Values(two(false), p)
		proved, e2 := wind.Proves(two(false), p, []int{-1})
		choice, e3 := wind.Choose(two(false), p, 5, 9, 2, 2)
		play, e4 := wind.Follow(two(false), p, []int{2}, []int{2})
		for _, e := range []api.Errno{wind.CheckRules(two(false), p), e1, e2, e3, e4} {
			if e != api.ErrRange {
				t.Error(i, e)
			}
		}
		if len(values) > 0 || proved != q(0, 0) || choice != (wind.Choice{}) || play != (wind.Play{}) {
			t.Error(i, values, proved, choice, play)
		}
	}
}

// P4.4: what the values of a few ranges prove, example 4 of the chapter first.
func TestProvedCost(t *testing.T) {
	for i, x := range []struct {
		r    wind.Range
		p    wind.Rules
		cost api.Ratio
	}{
		{two(false), still, q(10, 1)},
		{two(false), wind.Rules{Miss: 240, Click: 20, Waits: 3}, q(10, 1)},
		{two(false), wind.Rules{Miss: 240}, q(0, 1)},
		{two(false), wind.Rules{Click: 20, Wait: 5, Waits: 1}, q(0, 1)},
		// The click 0 all along costs 450 in the state 1: a click is cheaper up to that.
		{two(false), wind.Rules{Miss: 120, Click: 440}, q(220, 1)},
		{two(false), wind.Rules{Miss: 120, Click: 450}, q(225, 1)},
		{two(false), wind.Rules{Miss: 120, Click: 460}, q(225, 1)},
		// Without a cost of clicks each shot is shot with the best one.
		{two(true), wind.Rules{Miss: 240}, q(0, 1)},
		// A click is too dear: 3/8 of 8 at each shot.
		{two(true), wind.Rules{Miss: 8, Click: 600}, q(15, 1)},
		// A wait in the state 1 halves the 6 of its shot, and is taken unless all five shots have the state 0.
		{two(true), wind.Rules{Miss: 8, Click: 600, Waits: 1}, q(387, 32)},
		{two(true), wind.Rules{Miss: 8, Click: 600, Wait: 2, Waits: 1}, q(449, 32)},
		{two(true), wind.Rules{Miss: 8, Click: 600, Wait: 3, Waits: 1}, q(15, 1)},
		{little(), dear(), q(0, 1)},
		{steady(20, 1), wind.Rules{Miss: 6000, Waits: 3}, q(30000, 1)},
	} {
		values, e := wind.Values(x.r, x.p)
		cost, f := wind.Proves(x.r, x.p, values)
		size := 5 * (x.p.Waits + 1) * len(x.r.Drifts) * (2*x.r.Clicks + 1)
		if cost != x.cost || e != api.OK || f != api.OK || len(values) != size {
			t.Error(i, cost, e, f, len(values))
		}
	}
}

// P4.4: the values of the last shots, by hand, in their order.
func TestValuesOfLastShots(t *testing.T) {
	values, e := wind.Values(two(true), moving)
	if e != api.OK || len(values) != 60 {
		t.Fatal(values, e)
	}
	// Without a wait: with the click -1 the state 0 costs 60 by 4, the state 1 nothing; with the
	// click 0 the state 0 nothing, the state 1 the 100 of a click, with the click 1 those of two.
	if last := values[48:54]; !slices.Equal(last, []int{240, 0, 240, 0, 400, 800}) {
		t.Error(last)
	}
	// With a wait, by 8: to wait with the click 0 costs 30 and half of 100 in the state 1,
	// with the click 1 it would cost 30 and half of 60, and half of 200.
	if last := values[54:60]; !slices.Equal(last, []int{480, 0, 480, 0, 640, 1280}) {
		t.Error(last)
	}
	low, e := wind.Values(little(), wind.Rules{})
	if e != api.OK || !slices.Equal(low, make([]int, 5)) {
		t.Error(low, e)
	}
	// Each miss costs 7, whatever is done.
	lost := steady(20, 1)
	lost.Clicks, lost.Group = 0, []int{0, 3, 0}
	all, e := wind.Values(lost, wind.Rules{Miss: 7, Waits: 1})
	if e != api.OK || !slices.Equal(all, []int{105, 105, 84, 84, 63, 63, 42, 42, 21, 21}) {
		t.Error(all, e)
	}
}

// P4.4, P4.7: values are those of the slow reading, and prove what is expected at the beginning.
func TestValuesOfAllWays(t *testing.T) {
	g := rand.New(rand.NewSource(7))
	for i := range 200 {
		r, p := someRange(g, 1+i%3), someRules(g)
		checkValues(t, r, p)
	}
}

// P4.4: the greatest range has 1300 values, all within the limits.
func TestValuesOfGreatRange(t *testing.T) {
	checkValues(t, great(), dear())
	far := great()
	far.Radius, far.Drifts = 0, []int{300, -300, 280, -280, 300}
	checkValues(t, far, dear())
	if values, _ := wind.Values(far, dear()); slices.Max(values) != 12*12*12*12*12*12*12*100*30000 {
		t.Error(slices.Max(values))
	}
}

func checkValues(t *testing.T, r wind.Range, p wind.Rules) {
	t.Helper()
	want := slowValues(r, p)
	got, e := wind.Values(r, p)
	if e != api.OK || !slices.Equal(got, want) {
		t.Fatal(r, p, got, want, e)
	}
	cost, e := wind.Proves(r, p, got)
	if e != api.OK || cost != ratioOf(slowBegin(r, p, slowValue(r, p))) {
		t.Fatal(r, p, cost, e)
	}
}

// P4.4: any values that hold prove something, those that do not are refused, in the order of the errors.
func TestProvesAnyValues(t *testing.T) {
	good, _ := wind.Values(two(false), still)
	for i, x := range []struct {
		change func(l []int) []int
		want   api.Ratio
		e      api.Errno
	}{
		{func(l []int) []int { return l }, q(10, 1), api.OK},
		{func(l []int) []int { return make([]int, 30) }, q(0, 1), api.OK},
		{func(l []int) []int { l[4]--; return l }, q(1279, 128), api.OK},
		{func(l []int) []int { l[4] = 0; return l }, q(0, 1), api.OK},
		// A situation before others can stand for less than they do.
		{func(l []int) []int { l[0], l[1], l[5] = 0, 0, 0; return l }, q(10, 1), api.OK},
		{func(l []int) []int { l[1]++; return l }, q(0, 0), api.ErrWrong},
		{func(l []int) []int { l[4]++; return l }, q(0, 0), api.ErrWrong},
		{func(l []int) []int { l[29]++; return l }, q(0, 0), api.ErrWrong},
		{func(l []int) []int { clear(l[:24]); return l }, q(0, 1), api.OK},
		// What follows the plan costs nothing: it may stand for less, too.
		{func(l []int) []int { clear(l[6:]); return l }, q(10, 1), api.OK},
		{func(l []int) []int { l[0] = wind.MaxValue; return l }, q(0, 0), api.ErrWrong},
		{func(l []int) []int { return slices.Repeat([]int{wind.MaxValue}, 30) }, q(0, 0), api.ErrWrong},
		{func(l []int) []int { return nil }, q(0, 0), api.ErrCount},
		{func(l []int) []int { return l[1:] }, q(0, 0), api.ErrCount},
		{func(l []int) []int { return append(l, 0) }, q(0, 0), api.ErrCount},
		{func(l []int) []int { return append(l, -1) }, q(0, 0), api.ErrCount},
		{func(l []int) []int { l[0] = -1; return l }, q(0, 0), api.ErrRange},
		{func(l []int) []int { l[29] = -1; return l }, q(0, 0), api.ErrRange},
		{func(l []int) []int { l[0] = wind.MaxValue + 1; return l }, q(0, 0), api.ErrRange},
		{func(l []int) []int { l[0], l[29] = 9, wind.MaxValue+1; return l }, q(0, 0), api.ErrRange},
		{func(l []int) []int { l[7] = math.MaxInt; return l }, q(0, 0), api.ErrRange},
		{func(l []int) []int { l[7] = math.MinInt; return l }, q(0, 0), api.ErrRange},
	} {
		if got, e := wind.Proves(two(false), still, x.change(slices.Clone(good))); got != x.want || e != x.e {
			t.Error(i, got, e)
		}
	}
}

// P4.4: a number that stands for less makes those wrong that lead to it, by a shot or by a wait, unless they stand for less too.
func TestProvesWhatFollows(t *testing.T) {
	lost := steady(20, 1)
	lost.Clicks, lost.Group = 0, []int{0, 3, 0}
	p := wind.Rules{Miss: 7, Waits: 1}
	for i, x := range []struct {
		numbers []int
		want    api.Ratio
		e       api.Errno
	}{
		{[]int{105, 105, 84, 84, 63, 63, 42, 42, 21, 21}, q(35, 1), api.OK},
		{[]int{105, 105, 84, 84, 63, 63, 42, 42, 20, 20}, q(0, 0), api.ErrWrong},
		{[]int{105, 105, 84, 84, 63, 63, 42, 42, 20, 21}, q(0, 0), api.ErrWrong},
		{[]int{105, 105, 84, 84, 63, 63, 41, 42, 20, 21}, q(0, 0), api.ErrWrong},
		{[]int{105, 105, 84, 84, 63, 63, 41, 42, 20, 20}, q(0, 0), api.ErrWrong},
		{[]int{104, 104, 83, 83, 62, 62, 41, 41, 20, 20}, q(104, 3), api.OK},
		{[]int{105, 104, 84, 83, 63, 62, 42, 41, 21, 20}, q(104, 3), api.OK},
		{[]int{104, 104, 83, 83, 62, 62, 41, 41, 21, 20}, q(104, 3), api.OK},
		{[]int{104, 105, 83, 84, 62, 63, 41, 42, 20, 21}, q(0, 0), api.ErrWrong},
		{[]int{105, 105, 83, 83, 62, 62, 41, 41, 20, 20}, q(0, 0), api.ErrWrong},
		{[]int{30, 0, 84, 84, 63, 63, 42, 42, 21, 21}, q(0, 1), api.OK},
		{[]int{0, 30, 84, 84, 63, 63, 42, 42, 21, 21}, q(0, 0), api.ErrWrong},
	} {
		if got, e := wind.Proves(lost, p, x.numbers); got != x.want || e != x.e {
			t.Error(i, got, e)
		}
	}
}

// P4.4: numbers of all kinds hold, or not, as in the slow reading.
func TestProvesAsSlowly(t *testing.T) {
	g := rand.New(rand.NewSource(8))
	held := 0
	for i := range 600 {
		r, p := someRange(g, 1+i%2), someRules(g)
		numbers, e := wind.Values(r, p)
		if e != api.OK {
			t.Fatal(e)
		}
		for range 1 + g.Intn(3) {
			if k := g.Intn(len(numbers)); numbers[k] > 0 {
				numbers[k] += g.Intn(5) - 3
				numbers[k] = max(numbers[k], 0)
			}
		}
		if i%5 == 0 {
			for k, n := range numbers {
				numbers[k] = n * (i % 4) / 4
			}
		}
		want, holds := slowProves(r, p, numbers)
		got, e := wind.Proves(r, p, numbers)
		if got != want || holds != (e == api.OK) || !holds && e != api.ErrWrong {
			t.Fatal(r, p, numbers, got, want, e)
		}
		held += flag(holds)
	}
	if held < 100 || held > 500 {
		t.Error("too few of one kind", held)
	}
}

// costOf returns what is expected at the beginning, if situations have choices.
func costOf(r wind.Range, p wind.Rules, choose func(where) wind.Choice) *big.Rat {
	known := map[where]*big.Rat{}
	var value func(s where) *big.Rat
	value = func(s where) *big.Rat {
		if known[s] == nil {
			known[s] = slowCost(r, p, s, choose(s), value)
		}
		return known[s]
	}
	return slowBegin(r, p, value)
}

// P4.7, P0.5: no way to choose costs less than what values prove, and that of Choose costs just that.
func TestNoWayCostsLess(t *testing.T) {
	g := rand.New(rand.NewSource(9))
	for i := range 60 {
		r, p := someRange(g, 1+i%3), someRules(g)
		r.Clicks = min(r.Clicks, 1)
		values, _ := wind.Values(r, p)
		proved, e := wind.Proves(r, p, values)
		if e != api.OK {
			t.Fatal(e)
		}
		plan := func(s where) wind.Choice {
			c, e := wind.Choose(r, p, s.shot, s.waits, s.state, s.click)
			if e != api.OK {
				t.Fatal(r, p, s, e)
			}
			return c
		}
		if cost := costOf(r, p, plan); ratioOf(cost) != proved {
			t.Fatal(r, p, cost, proved)
		}
		for range 20 {
			ways := map[where]wind.Choice{}
			for _, s := range placesOf(r, p) {
				all := choicesOf(r, s)
				ways[s] = all[g.Intn(len(all))]
				if g.Intn(2) == 0 {
					ways[s] = plan(s)
				}
			}
			if cost := costOf(r, p, func(s where) wind.Choice { return ways[s] }); cost.Cmp(rat(proved.N, proved.D)) < 0 {
				t.Fatal(r, p, ways, cost, proved)
			}
		}
	}
}

// P4.7: a wait more, or a cheaper miss, click or wait, never makes the plan dearer.
func TestCheaperRules(t *testing.T) {
	g := rand.New(rand.NewSource(10))
	for range 150 {
		r, p := someRange(g, 1+g.Intn(3)), someRules(g)
		proved := func(p wind.Rules) *big.Rat {
			values, _ := wind.Values(r, p)
			cost, e := wind.Proves(r, p, values)
			if e != api.OK {
				t.Fatal(r, p, e)
			}
			return rat(cost.N, cost.D)
		}
		more, miss, click, wait := p, p, p, p
		more.Waits++
		miss.Miss = max(0, p.Miss-1)
		click.Click = max(0, p.Click-1)
		wait.Wait = max(0, p.Wait-1)
		for i, cheaper := range []wind.Rules{more, miss, click, wait} {
			if a, b := proved(cheaper), proved(p); a.Cmp(b) > 0 {
				t.Fatal(i, r, p, a, b)
			}
		}
	}
}
