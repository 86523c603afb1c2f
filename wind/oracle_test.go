package wind_test

import (
	"math/big"
	"math/rand"

	"klister/api"
	"klister/wind"
)

// This file says the chapter's terms again in the slowest way, for tests to
// compare with: all winds step by step, all cases, and each choice by itself.

func span(lo, hi int) api.Span { return api.Span{Lo: lo, Hi: hi} }

func q(n, d int) api.Ratio { return api.Ratio{N: n, D: d} }

func rat(n, d int) *big.Rat { return big.NewRat(int64(n), int64(d)) }

// ratioOf returns a fraction of the program; big keeps it in lowest terms.
func ratioOf(x *big.Rat) api.Ratio { return q(int(x.Num().Int64()), int(x.Denom().Int64())) }

func plus(a, b *big.Rat) *big.Rat { return new(big.Rat).Add(a, b) }

func times(a, b *big.Rat) *big.Rat { return new(big.Rat).Mul(a, b) }

func sumOf(numbers []int) int {
	sum := 0
	for _, n := range numbers {
		sum += n
	}
	return sum
}

func far(n int) int {
	if n < 0 {
		return -n
	}
	return n
}

// hitsOf reports whether a shot hits.
func hitsOf(r wind.Range, drift, offset, click int) bool {
	return far(drift+offset+click*r.Unit) <= r.Radius
}

// missOf returns the chance of a miss in a wind with a drift.
func missOf(r wind.Range, drift, click int) *big.Rat {
	chance, offset := rat(0, 1), -(len(r.Group)-1)/2
	for _, weight := range r.Group {
		if !hitsOf(r, drift, offset, click) {
			chance = plus(chance, rat(weight, sumOf(r.Group)))
		}
		offset++
	}
	return chance
}

// eachWind calls a function with all states of so many steps that can come one
// after another, and their chance.
func eachWind(r wind.Range, steps int, do func(states []int, chance *big.Rat)) {
	var walk func(states []int, chance *big.Rat, weights []int)
	walk = func(states []int, chance *big.Rat, weights []int) {
		if len(states) == steps {
			do(states, chance)
			return
		}
		for state, weight := range weights {
			if weight > 0 {
				walk(append(states, state), times(chance, rat(weight, r.Total)), r.Next[state])
			}
		}
	}
	walk(nil, rat(1, 1), r.First)
}

// slowChances returns the chance of each state at each shot.
func slowChances(r wind.Range) [][]api.Ratio {
	var sums [5][5]*big.Rat
	eachWind(r, 5, func(states []int, chance *big.Rat) {
		for k, state := range states {
			if sums[k][state] == nil {
				sums[k][state] = rat(0, 1)
			}
			sums[k][state] = plus(sums[k][state], chance)
		}
	})
	list := make([][]api.Ratio, 5)
	for k := range list {
		for state := range r.Drifts {
			one := q(0, 1)
			if sums[k][state] != nil {
				one = ratioOf(sums[k][state])
			}
			list[k] = append(list[k], one)
		}
	}
	return list
}

// slowExpected returns the misses to be expected with a click.
func slowExpected(r wind.Range, click int) *big.Rat {
	sum := rat(0, 1)
	eachWind(r, 5, func(states []int, chance *big.Rat) {
		for _, state := range states {
			sum = plus(sum, times(chance, missOf(r, r.Drifts[state], click)))
		}
	})
	return sum
}

// slowLeast returns the click that is least bad, as Best does.
func slowLeast(r wind.Range, bad func(click int) *big.Rat) (int, *big.Rat) {
	best, least := -r.Clicks, bad(-r.Clicks)
	for click := -r.Clicks; click <= r.Clicks; click++ {
		n := bad(click)
		if n.Cmp(least) < 0 || n.Cmp(least) == 0 && far(click) < far(best) {
			best, least = click, n
		}
	}
	return best, least
}

// eachCase calls a function with all cases of winds.
func eachCase(winds []api.Span, do func(drifts []int)) {
	var walk func(drifts []int)
	walk = func(drifts []int) {
		if len(drifts) == len(winds) {
			do(drifts)
			return
		}
		for d := winds[len(drifts)].Lo; d <= winds[len(drifts)].Hi; d++ {
			walk(append(drifts, d))
		}
	}
	walk(nil)
}

// slowCase returns the misses to be expected of a case.
func slowCase(r wind.Range, drifts []int, click int) *big.Rat {
	sum := rat(0, 1)
	for _, d := range drifts {
		sum = plus(sum, missOf(r, d, click))
	}
	return sum
}

// slowWorst returns the misses to be expected of the worst case of a click.
func slowWorst(r wind.Range, winds []api.Span, click int) *big.Rat {
	most := rat(-1, 1)
	eachCase(winds, func(drifts []int) {
		if n := slowCase(r, drifts, click); n.Cmp(most) > 0 {
			most = n
		}
	})
	return most
}

// where is a situation.
type where struct{ shot, waits, state, click int }

// placesOf returns all situations in the order of values.
func placesOf(r wind.Range, p wind.Rules) []where {
	var l []where
	for shot := 0; shot < 5; shot++ {
		for waits := 0; waits <= p.Waits; waits++ {
			for state := 0; state < len(r.Drifts); state++ {
				for click := -r.Clicks; click <= r.Clicks; click++ {
					l = append(l, where{shot, waits, state, click})
				}
			}
		}
	}
	return l
}

// choicesOf returns what can be chosen in a situation: a wait first, then clicks from below.
func choicesOf(r wind.Range, s where) []wind.Choice {
	var l []wind.Choice
	if s.waits > 0 {
		l = append(l, wind.Choice{Wait: true})
	}
	for click := -r.Clicks; click <= r.Clicks; click++ {
		l = append(l, wind.Choice{Click: click})
	}
	return l
}

// slowCost returns what can be expected of a choice, if the situations that follow have some values.
func slowCost(r wind.Range, p wind.Rules, s where, c wind.Choice, value func(where) *big.Rat) *big.Rat {
	var cost *big.Rat
	next := s
	if c.Wait {
		cost = rat(p.Wait, 1)
		next.waits--
	} else {
		cost = plus(rat(p.Click*far(c.Click-s.click), 1), times(rat(p.Miss, 1), missOf(r, r.Drifts[s.state], c.Click)))
		next.shot++
		next.click = c.Click
	}
	if next.shot == 5 {
		return cost
	}
	for state, weight := range r.Next[s.state] {
		next.state = state
		cost = plus(cost, times(rat(weight, r.Total), value(next)))
	}
	return cost
}

// slowValue returns what computes the values of situations.
func slowValue(r wind.Range, p wind.Rules) func(where) *big.Rat {
	known := map[where]*big.Rat{}
	var value func(s where) *big.Rat
	value = func(s where) *big.Rat {
		if known[s] == nil {
			least := rat(wind.MaxValue, 1)
			for _, c := range choicesOf(r, s) {
				if n := slowCost(r, p, s, c, value); n.Cmp(least) < 0 {
					least = n
				}
			}
			known[s] = least
		}
		return known[s]
	}
	return value
}

// scaleOf returns by what the number of a situation stands for a value.
func scaleOf(r wind.Range, s where) *big.Rat {
	scale := rat(sumOf(r.Group), 1)
	for i := 0; i < 4-s.shot+s.waits; i++ {
		scale = times(scale, rat(r.Total, 1))
	}
	return scale
}

// slowValues returns the values of all situations, as numbers.
func slowValues(r wind.Range, p wind.Rules) []int {
	var l []int
	value := slowValue(r, p)
	for _, s := range placesOf(r, p) {
		n := times(value(s), scaleOf(r, s))
		if !n.IsInt() {
			panic("a number that is not whole")
		}
		l = append(l, int(n.Num().Int64()))
	}
	return l
}

// slowBegin returns the cost that is expected at the beginning, by values.
func slowBegin(r wind.Range, p wind.Rules, value func(where) *big.Rat) *big.Rat {
	cost := rat(0, 1)
	for state, weight := range r.First {
		cost = plus(cost, times(rat(weight, r.Total), value(where{0, p.Waits, state, 0})))
	}
	return cost
}

// slowProves returns what numbers prove, and whether they hold.
func slowProves(r wind.Range, p wind.Rules, numbers []int) (api.Ratio, bool) {
	values, all := map[where]*big.Rat{}, placesOf(r, p)
	for i, s := range all {
		values[s] = new(big.Rat).Quo(rat(numbers[i], 1), scaleOf(r, s))
	}
	value := func(s where) *big.Rat { return values[s] }
	for _, s := range all {
		for _, c := range choicesOf(r, s) {
			if value(s).Cmp(slowCost(r, p, s, c, value)) > 0 {
				return api.Ratio{}, false
			}
		}
	}
	return ratioOf(slowBegin(r, p, value)), true
}

// before reports whether a choice is taken rather than another one that costs as much.
func before(s where, a, b wind.Choice) bool {
	if a.Wait || b.Wait {
		return b.Wait
	}
	if x, y := far(a.Click-s.click), far(b.Click-s.click); x != y {
		return x < y
	}
	return a.Click < b.Click
}

// slowChoose returns the choice of a situation.
func slowChoose(r wind.Range, p wind.Rules, s where, value func(where) *big.Rat) wind.Choice {
	all := choicesOf(r, s)
	best := all[0]
	for _, c := range all[1:] {
		order := slowCost(r, p, s, c, value).Cmp(slowCost(r, p, s, best, value))
		if order < 0 || order == 0 && before(s, c, best) {
			best = c
		}
	}
	return best
}

// slowFollow plays five shots, each with a choice of a situation.
func slowFollow(r wind.Range, p wind.Rules, states, offsets []int, choose func(where) wind.Choice) (wind.Play, api.Errno) {
	var play wind.Play
	s := where{waits: p.Waits}
	for s.shot < 5 {
		if play.Steps == len(states) {
			return wind.Play{}, api.ErrNone
		}
		s.state = states[play.Steps]
		play.Steps++
		c := choose(s)
		if c.Wait {
			play.Cost += p.Wait
			s.waits--
			continue
		}
		play.Cost += p.Click * far(c.Click-s.click)
		if !hitsOf(r, r.Drifts[s.state], offsets[s.shot], c.Click) {
			play.Misses++
			play.Cost += p.Miss
		}
		s.click = c.Click
		s.shot++
	}
	return play, api.OK
}

// someWeights returns so many weights with a sum.
func someWeights(g *rand.Rand, size, sum int) []int {
	l := make([]int, size)
	for range sum {
		l[g.Intn(size)]++
	}
	return l
}

// someRange returns a range that is valid, with a few clicks and states.
func someRange(g *rand.Rand, states int) wind.Range {
	r := wind.Range{Radius: g.Intn(6), Unit: 1 + g.Intn(4), Clicks: g.Intn(3), Total: 1 + g.Intn(4)}
	r.Group = someWeights(g, 1+2*g.Intn(3), 1+g.Intn(6))
	r.First = someWeights(g, states, r.Total)
	for range states {
		r.Drifts = append(r.Drifts, g.Intn(17)-8)
		r.Next = append(r.Next, someWeights(g, states, r.Total))
	}
	return r
}

// someRules returns rules of which many choices cost as much as others.
func someRules(g *rand.Rand) wind.Rules {
	return wind.Rules{Miss: g.Intn(4) * 4, Click: g.Intn(4), Wait: g.Intn(3), Waits: g.Intn(3)}
}

// someWinds returns narrow spans.
func someWinds(g *rand.Rand) []api.Span {
	var l []api.Span
	for range 5 {
		lo := g.Intn(13) - 6
		l = append(l, span(lo, lo+g.Intn(4)))
	}
	return l
}
