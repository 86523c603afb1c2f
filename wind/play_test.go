package wind_test

import (
	"math"
	"math/big"
	"math/rand"
	"slices"
	"testing"

	"klister/api"
	"klister/wind"
)

// P4.5: examples 4 and 5 of the chapter, and the errors of Choose in their order.
func TestChoose(t *testing.T) {
	for i, x := range []struct {
		shot, waits, state, click int
		want                      wind.Choice
		e                         api.Errno
	}{
		{4, 1, 1, 0, wind.Choice{Wait: true}, api.OK},
		{4, 0, 1, 0, wind.Choice{Click: -1}, api.OK},
		{4, 1, 0, 0, wind.Choice{}, api.OK},
		{4, 0, 0, -1, wind.Choice{Click: -1}, api.OK},
		{4, 0, 1, 1, wind.Choice{Click: -1}, api.OK},
		{4, 0, 0, 1, wind.Choice{Click: 1}, api.OK},
		{5, 1, 1, 0, wind.Choice{}, api.ErrUnknown},
		{-1, 1, 1, 0, wind.Choice{}, api.ErrUnknown},
		{math.MaxInt, 1, 1, 0, wind.Choice{}, api.ErrUnknown},
		{math.MinInt, 9, 1, 9, wind.Choice{}, api.ErrUnknown},
		{0, 1, 2, 0, wind.Choice{}, api.ErrUnknown},
		{0, 1, -1, 0, wind.Choice{}, api.ErrUnknown},
		{0, 9, math.MaxInt, 9, wind.Choice{}, api.ErrUnknown},
		{0, 2, 1, 0, wind.Choice{}, api.ErrRange},
		{0, -1, 1, 0, wind.Choice{}, api.ErrRange},
		{0, math.MaxInt, 1, 0, wind.Choice{}, api.ErrRange},
		{0, math.MinInt, 1, 0, wind.Choice{}, api.ErrRange},
		{0, 1, 1, 2, wind.Choice{}, api.ErrRange},
		{0, 1, 1, -2, wind.Choice{}, api.ErrRange},
		{4, 0, 1, math.MaxInt, wind.Choice{}, api.ErrRange},
		{4, 0, 1, math.MinInt, wind.Choice{}, api.ErrRange},
	} {
		if c, e := wind.Choose(two(true), moving, x.shot, x.waits, x.state, x.click); c != x.want || e != x.e {
			t.Error(i, c, e)
		}
	}
	for shot := range 5 {
		a, e := wind.Choose(two(false), still, shot, 0, 0, 0)
		b, f := wind.Choose(two(false), still, shot, 0, 1, 0)
		if a != (wind.Choice{}) || b != (wind.Choice{Click: -1}) || e != api.OK || f != api.OK {
			t.Error(shot, a, b, e, f)
		}
	}
}

// P4.5: which choice of those that cost as much.
func TestChooseOfEquals(t *testing.T) {
	free := wind.Rules{Miss: 10, Waits: 2}
	for i, x := range []struct {
		r     wind.Range
		p     wind.Rules
		click int
		want  wind.Choice
	}{
		// All hit, or nothing does, at no cost: the click stays, and nobody waits.
		{steady(0, 60), free, 2, wind.Choice{Click: 2}},
		{steady(0, 60), free, -3, wind.Choice{Click: -3}},
		{steady(60, 0), free, 1, wind.Choice{Click: 1}},
		// The hits are at -1, 0 and 1, or only at one of them.
		{steady(0, 2), free, 3, wind.Choice{Click: 1}},
		{steady(0, 2), free, -2, wind.Choice{Click: -1}},
		{steady(0, 2), free, 1, wind.Choice{Click: 1}},
		{steady(0, 0), free, 3, wind.Choice{}},
		// The hits are two clicks to each side: the nearer one, and else the lesser one.
		{sides(4, 0), free, 0, wind.Choice{Click: -2}},
		{sides(4, 0), free, 1, wind.Choice{Click: 2}},
		{sides(4, 0), free, -1, wind.Choice{Click: -2}},
		{sides(4, 0), free, 3, wind.Choice{Click: 2}},
		{sides(2, 0), free, 0, wind.Choice{Click: -1}},
		// A miss more is as dear as the click to the only hit.
		{steady(2, 0), wind.Rules{Miss: 10, Click: 10}, 0, wind.Choice{}},
		{steady(2, 0), wind.Rules{Miss: 11, Click: 10}, 0, wind.Choice{Click: -1}},
		// Clicks and misses cost nothing, waits do.
		{steady(2, 0), wind.Rules{Wait: 1, Waits: 1}, 3, wind.Choice{Click: 3}},
	} {
		if c, e := wind.Choose(x.r, x.p, 4, x.p.Waits, 0, x.click); c != x.want || e != api.OK {
			t.Error(i, c, e)
		}
	}
	// In the state 1 to wait costs 50 and half of 100: as much as the click.
	equal := moving
	equal.Wait = 50
	if c, e := wind.Choose(two(true), equal, 4, 1, 1, 0); c != (wind.Choice{Click: -1}) || e != api.OK {
		t.Error(c, e)
	}
	equal.Wait = 49
	if c, e := wind.Choose(two(true), equal, 4, 1, 1, 0); c != (wind.Choice{Wait: true}) || e != api.OK {
		t.Error(c, e)
	}
}

// P4.5: the choice of each situation, as in the slow reading.
func TestChooseAsSlowly(t *testing.T) {
	g := rand.New(rand.NewSource(11))
	waited := 0
	for i := range 120 {
		r, p := someRange(g, 1+i%3), someRules(g)
		value := slowValue(r, p)
		for _, s := range placesOf(r, p) {
			if g.Intn(3) > 0 {
				continue
			}
			want := slowChoose(r, p, s, value)
			got, e := wind.Choose(r, p, s.shot, s.waits, s.state, s.click)
			if got != want || e != api.OK {
				t.Fatal(r, p, s, got, want, e)
			}
			waited += flag(got.Wait)
		}
	}
	if waited < 50 {
		t.Error("too few waits", waited)
	}
}

// P4.5: plays of the chapter's examples, and the errors of Follow in their order.
func TestFollow(t *testing.T) {
	waits := wind.Rules{Miss: 240, Click: 100, Wait: 1, Waits: 3}
	for i, x := range []struct {
		changes         bool
		p               wind.Rules
		states, offsets []int
		want            wind.Play
		e               api.Errno
	}{
		{false, still, []int{1, 1, 1, 1, 1}, []int{0, 0, 0, 0, 1}, wind.Play{Cost: 20, Steps: 5}, api.OK},
		{false, still, []int{0, 0, 0, 0, 0}, []int{0, 1, -1, 0, 1}, wind.Play{Steps: 5}, api.OK},
		// Back to the click 0 at last.
		{false, still, []int{1, 1, 1, 1, 0}, []int{0, 0, 0, 0, 0}, wind.Play{Cost: 40, Steps: 5}, api.OK},
		// Clicks are too dear: the impacts 2, 3 and 4 of the state 1 hit, miss and miss.
		{false, wind.Rules{Miss: 100, Click: 600}, []int{1, 1, 1, 1, 1}, []int{-1, 0, 1, -1, 0}, wind.Play{Misses: 3, Cost: 300, Steps: 5}, api.OK},
		{false, wind.Rules{Click: 600}, []int{1, 1, 0, 1, 1}, []int{1, 1, 1, 1, 1}, wind.Play{Misses: 4, Steps: 5}, api.OK},
		// Each wait is in the state 1: until none is left, or the wind changes.
		{true, waits, []int{0, 1, 0, 1, 1, 0, 0, 0}, []int{0, 0, 0, 0, 0}, wind.Play{Cost: 3, Steps: 8}, api.OK},
		{true, waits, []int{1, 1, 0, 0, 0, 0, 0, 0}, []int{0, 0, 0, 0, 0}, wind.Play{Cost: 2, Steps: 7}, api.OK},
		{true, waits, []int{1, 1, 0, 0, 0, 0, 0}, []int{0, 0, 0, 0, 0}, wind.Play{Cost: 2, Steps: 7}, api.OK},
		{true, waits, []int{1, 1, 0, 0, 0, 0}, []int{0, 0, 0, 0, 0}, wind.Play{}, api.ErrNone},
		{true, waits, []int{0, 0, 0, 0, 1, 1, 1}, []int{0, 0, 0, 0, 0}, wind.Play{}, api.ErrNone},
		{true, moving, []int{0, 0, 0, 0, 1, 1}, []int{0, 0, 0, 0, 1}, wind.Play{Cost: 130, Steps: 6}, api.OK},
		// States behind the last step are not used, but they have to exist.
		{false, wind.Rules{Miss: 240, Click: 20, Wait: 1, Waits: 3}, []int{0, 0, 0, 0, 0, 1, 1, 1}, []int{0, 0, 0, 0, 0}, wind.Play{Steps: 5}, api.OK},
		{false, wind.Rules{Miss: 240, Click: 20, Waits: 1}, []int{0, 0, 0, 0, 0, 2}, []int{0, 0, 0, 0, 0}, wind.Play{}, api.ErrUnknown},
		{false, still, []int{1, 1, 1, 1}, []int{0, 0, 0, 0}, wind.Play{}, api.ErrCount},
		{false, still, []int{1, 1, 1, 1, 1}, []int{0, 0, 0, 0}, wind.Play{}, api.ErrCount},
		{false, still, []int{1, 1, 1, 1, 1}, []int{0, 0, 0, 0, 0, 0}, wind.Play{}, api.ErrCount},
		{false, still, []int{1, 1, 1, 1, 1, 1}, []int{0, 0, 0, 0, 0}, wind.Play{}, api.ErrCount},
		{true, waits, []int{0, 0, 0, 0, 0, 0, 0, 0, 0}, []int{0, 0, 0, 0, 0}, wind.Play{}, api.ErrCount},
		{true, waits, []int{9, 0, 0, 0, 0, 0, 0, 0, 0}, []int{9, 0, 0, 0, 0}, wind.Play{}, api.ErrCount},
		{false, still, []int{1, 1, 1, 1, 2}, []int{0, 0, 0, 0, 9}, wind.Play{}, api.ErrUnknown},
		{false, still, []int{1, 1, 1, -1}, []int{0, 0, 0, 0, 0}, wind.Play{}, api.ErrUnknown},
		{false, still, []int{math.MaxInt, 1, 1, 1, 1}, []int{0, 0, 0, 0, 0}, wind.Play{}, api.ErrUnknown},
		{false, still, []int{1, 1, math.MinInt, 1, 1}, []int{0, 0, 0, 0, 0}, wind.Play{}, api.ErrUnknown},
		{false, still, []int{1, 1, 1, 1}, []int{0, 0, 0, 0, 2}, wind.Play{}, api.ErrRange},
		{false, still, nil, []int{-2, 0, 0, 0, 0}, wind.Play{}, api.ErrRange},
		{false, still, []int{1, 1, 1, 1, 1}, []int{0, 0, math.MaxInt, 0, 0}, wind.Play{}, api.ErrRange},
		{false, still, []int{1, 1, 1, 1, 1}, []int{0, 0, math.MinInt, 0, 0}, wind.Play{}, api.ErrRange},
		{false, still, []int{1, 1, 1, 1}, []int{0, 0, 0, 0, 0}, wind.Play{}, api.ErrNone},
		{false, still, nil, []int{0, 0, 0, 0, 0}, wind.Play{}, api.ErrNone},
	} {
		if got, e := wind.Follow(two(x.changes), x.p, x.states, x.offsets); got != x.want || e != x.e {
			t.Error(i, got, e)
		}
	}
}

// P4.5: an offset may have the weight 0, and a state the chance 0.
func TestFollowWhatCannotCome(t *testing.T) {
	r := two(false)
	r.Group = []int{0, 0, 1, 0, 0}
	for i, x := range []struct {
		offsets []int
		want    wind.Play
		e       api.Errno
	}{
		{[]int{2, -2, 0, 0, 0}, wind.Play{Cost: 20, Steps: 5}, api.OK},
		{[]int{0, 0, 2, -2, 1}, wind.Play{Misses: 1, Cost: 260, Steps: 5}, api.OK},
		{[]int{0, 0, 0, 0, 3}, wind.Play{}, api.ErrRange},
		{[]int{0, 0, 0, -3, 0}, wind.Play{}, api.ErrRange},
	} {
		// The wind changes twice, though by its chances it never does; one click is enough.
		if got, e := wind.Follow(r, still, []int{0, 0, 1, 1, 0}, x.offsets); got != x.want || e != x.e {
			t.Error(i, got, e)
		}
	}
}

// P4.5: plays of all kinds, as in the slow reading.
func TestFollowAsSlowly(t *testing.T) {
	g := rand.New(rand.NewSource(12))
	none := 0
	for i := range 200 {
		r, p := someRange(g, 1+i%3), someRules(g)
		value := slowValue(r, p)
		reach := len(r.Group) / 2
		for range 10 {
			var states, offsets []int
			for range 5 + g.Intn(p.Waits+1) {
				states = append(states, g.Intn(len(r.Drifts)))
			}
			for range 5 {
				offsets = append(offsets, g.Intn(2*reach+1)-reach)
			}
			want, f := slowFollow(r, p, states, offsets, func(s where) wind.Choice { return slowChoose(r, p, s, value) })
			if got, e := wind.Follow(r, p, states, offsets); got != want || e != f {
				t.Fatal(r, p, states, offsets, got, want, e, f)
			}
			none += flag(f == api.ErrNone)
		}
	}
	if none < 20 {
		t.Error("too few plays without an end", none)
	}
}

// P4.7: averaged over all winds and offsets, Follow costs what values prove.
func TestFollowCostsThePlan(t *testing.T) {
	g := rand.New(rand.NewSource(13))
	fading := two(false)
	fading.First, fading.Next, fading.Group = []int{2, 0}, [][]int{{1, 1}, {0, 2}}, []int{1}
	checkAverage(t, fading, wind.Rules{Miss: 7, Click: 2, Wait: 1, Waits: 1})
	for range 12 {
		r, p := someRange(g, 2), someRules(g)
		r.Group = []int{1 + g.Intn(2), 0, 1 + g.Intn(2)}
		p.Waits = min(p.Waits, 1)
		checkAverage(t, r, p)
	}
}

func checkAverage(t *testing.T, r wind.Range, p wind.Rules) {
	t.Helper()
	cost := rat(0, 1)
	eachWind(r, 5+p.Waits, func(states []int, chance *big.Rat) {
		eachGroup(r, 5, func(offsets []int, each *big.Rat) {
			play, e := wind.Follow(r, p, states, offsets)
			if e != api.OK {
				t.Fatal(r, p, states, offsets, e)
			}
			cost = plus(cost, times(times(chance, each), rat(play.Cost, 1)))
		})
	})
	values, _ := wind.Values(r, p)
	if proved, e := wind.Proves(r, p, values); e != api.OK || proved != ratioOf(cost) {
		t.Fatal(r, p, proved, cost, e)
	}
}

// eachGroup calls a function with all offsets of so many shots, and their chance.
func eachGroup(r wind.Range, shots int, do func(offsets []int, chance *big.Rat)) {
	if shots == 0 {
		do(nil, rat(1, 1))
		return
	}
	eachGroup(r, shots-1, func(offsets []int, chance *big.Rat) {
		for i, weight := range r.Group {
			if weight > 0 {
				do(slices.Concat(offsets, []int{i - len(r.Group)/2}), times(chance, rat(weight, sumOf(r.Group))))
			}
		}
	})
}
