package ski_test

import (
	"math/rand"
	"slices"

	"klister/api"
	"klister/ski"
)

// This file says the chapter's terms again in the slowest way, for tests to
// compare with: all orders, all sets of runs, all that further runs can show, all
// lists of waxes, all zones and all pairings.

func span(lo, hi int) api.Span { return api.Span{Lo: lo, Hi: hi} }

func run(a, b, lead int) ski.Run { return ski.Run{A: a, B: b, Lead: lead} }

// lab returns a lab without an error.
func lab(skis int, runs ...ski.Run) ski.Lab { return ski.Lab{Skis: skis, Runs: runs} }

// four returns the lab of the chapter's example 1, with more runs.
func four(more ...ski.Run) ski.Lab {
	runs := []ski.Run{run(0, 1, 8), run(1, 2, 3), run(2, 1, -9), run(3, 0, -6)}
	return ski.Lab{Skis: 4, Error: 5, Runs: append(runs, more...)}
}

// round returns the lab of the chapter's example 3.
func round() ski.Lab { return four(run(2, 0, 7)) }

// more returns a lab with a run more.
func more(l ski.Lab, r ski.Run) ski.Lab {
	l.Runs = append(slices.Clone(l.Runs), r)
	return l
}

// shownBy returns which ski a run shows to be faster than which one, if it does.
func shownBy(l ski.Lab, r ski.Run) (fast, slow int, shows bool) {
	if r.Lead > l.Error {
		return r.A, r.B, true
	}
	if r.Lead < -l.Error {
		return r.B, r.A, true
	}
	return 0, 0, false
}

// runsTo returns the fewest runs of a chain from a ski to a ski, or 0: those
// that are reached by exactly one run, by two, and so on.
func runsTo(l ski.Lab, from, to int) int {
	at := map[int]bool{from: true}
	for runs := 1; runs <= l.Skis; runs++ {
		then := map[int]bool{}
		for _, r := range l.Runs {
			if fast, slow, shows := shownBy(l, r); shows && at[fast] {
				then[slow] = true
			}
		}
		if then[to] {
			return runs
		}
		at = then
	}
	return 0
}

// isChain reports whether runs are a chain from a ski to a ski.
func isChain(l ski.Lab, from, to int, chain []int) bool {
	if len(chain) == 0 {
		return from == to
	}
	fast, slow, shows := shownBy(l, l.Runs[chain[0]])
	if !shows || fast != from {
		return false
	}
	if len(chain) == 1 {
		return slow == to
	}
	return isChain(l, slow, to, chain[1:])
}

// contradictory reports whether there is a round.
func contradictory(l ski.Lab) bool {
	for s := 0; s < l.Skis; s++ {
		if runsTo(l, s, s) > 0 {
			return true
		}
	}
	return false
}

// without returns a lab without the runs of some indices.
func without(l ski.Lab, drop []int) ski.Lab {
	m := ski.Lab{Skis: l.Skis, Error: l.Error}
	for k, r := range l.Runs {
		if !slices.Contains(drop, k) {
			m.Runs = append(m.Runs, r)
		}
	}
	return m
}

// sets returns all lists of numbers less than n, in increasing order in each of them.
func sets(n int) [][]int {
	all := [][]int{nil}
	for x := 0; x < n; x++ {
		for _, l := range all[:len(all):len(all)] {
			all = append(all, append(slices.Clone(l), x))
		}
	}
	return all
}

// slowDrop returns how many runs have to be dropped.
func slowDrop(l ski.Lab) int {
	fewest := len(l.Runs)
	for _, drop := range sets(len(l.Runs)) {
		if len(drop) < fewest && !contradictory(without(l, drop)) {
			fewest = len(drop)
		}
	}
	return fewest
}

// permutations returns all orders of n skis, in lexicographic order.
func permutations(n int) [][]int {
	var all [][]int
	var grow func(order []int)
	grow = func(order []int) {
		if len(order) == n {
			all = append(all, slices.Clone(order))
			return
		}
		for s := 0; s < n; s++ {
			if !slices.Contains(order, s) {
				grow(append(order, s))
			}
		}
	}
	grow(nil)
	return all
}

// before reports whether a ski is before another one in an order.
func before(order []int, a, b int) bool { return slices.Index(order, a) < slices.Index(order, b) }

// fitting returns all orders that fit, in lexicographic order.
func fitting(l ski.Lab) [][]int {
	var pairs [][2]int
	for a := 0; a < l.Skis; a++ {
		for b := 0; b < l.Skis; b++ {
			if runsTo(l, a, b) > 0 {
				pairs = append(pairs, [2]int{a, b})
			}
		}
	}
	fits := func(order []int) bool {
		for _, p := range pairs {
			if !before(order, p[0], p[1]) {
				return false
			}
		}
		return true
	}
	var all [][]int
	for _, order := range permutations(l.Skis) {
		if fits(order) {
			all = append(all, order)
		}
	}
	return all
}

// places returns the least and the greatest place of each ski in some orders.
func places(orders [][]int) []api.Span {
	spans := make([]api.Span, len(orders[0]))
	for _, order := range orders {
		for i, s := range order {
			if spans[s].Lo == 0 || i+1 < spans[s].Lo {
				spans[s].Lo = i + 1
			}
			if i+1 > spans[s].Hi {
				spans[s].Hi = i + 1
			}
		}
	}
	return spans
}

// agreed reports whether some orders have the same ski at each of the first k places.
func agreed(orders [][]int, k int) bool {
	for _, order := range orders {
		if !slices.Equal(order[:k], orders[0][:k]) {
			return false
		}
	}
	return true
}

// game is what further runs leave of the orders that fit: a run leaves those in
// which one ski is before the other. What was computed of some orders is kept.
type game struct {
	k     int
	known map[string]int
}

// fewest returns the fewest further runs if some orders are left.
func (g game) fewest(orders [][]int) int {
	if agreed(orders, g.k) {
		return 0
	}
	name := ""
	for _, order := range orders {
		for _, s := range order {
			name += string(rune('0' + s))
		}
	}
	best, found := g.known[name]
	if found {
		return best
	}
	for b := range orders[0] {
		for a := range b {
			one, other := split(orders, a, b)
			if len(one) == 0 || len(other) == 0 {
				continue
			}
			if n := g.worth(orders, a, b); best == 0 || n < best {
				best = n
			}
		}
	}
	g.known[name] = best
	return best
}

// worth returns the fewest further runs if the next one is between two skis.
func (g game) worth(orders [][]int, a, b int) int {
	most := 0
	one, other := split(orders, a, b)
	for _, left := range [][][]int{one, other} {
		if len(left) > 0 {
			most = max(most, g.fewest(left))
		}
	}
	return 1 + most
}

// split returns the orders in which a ski is before another one, and the others.
func split(orders [][]int, a, b int) (one, other [][]int) {
	for _, order := range orders {
		if before(order, a, b) {
			one = append(one, order)
		} else {
			other = append(other, order)
		}
	}
	return one, other
}

// regretOf returns the regret of a wax on a snow.
func regretOf(loss [][]int, wax, snow int) int {
	best := loss[wax][snow]
	for _, row := range loss {
		best = min(best, row[snow])
	}
	return loss[wax][snow] - best
}

// goodAll returns the first wax that is good on all snows from one to another one, or -1.
func goodAll(loss [][]int, most, from, to int) int {
	for wax := range loss {
		good := true
		for snow := from; snow <= to; snow++ {
			good = good && regretOf(loss, wax, snow) <= most
		}
		if good {
			return wax
		}
	}
	return -1
}

// slowBag returns the fewest waxes, the first ones of several such lists.
func slowBag(loss [][]int, most int) []int {
	var best []int
	for _, bag := range sets(len(loss)) {
		all := true
		for snow := range loss[0] {
			all = all && slices.ContainsFunc(bag, func(wax int) bool { return regretOf(loss, wax, snow) <= most })
		}
		if !all {
			continue
		}
		if best == nil || len(bag) < len(best) || len(bag) == len(best) && slices.Compare(bag, best) < 0 {
			best = bag
		}
	}
	return best
}

// slowZones returns how few zones there can be, of all ways to end zones.
func slowZones(loss [][]int, most int) int {
	fewest := len(loss[0])
	for _, ends := range sets(len(loss[0]) - 1) {
		from, all := 0, true
		for _, to := range append(ends, len(loss[0])-1) {
			all = all && goodAll(loss, most, from, to) >= 0
			from = to + 1
		}
		if all {
			fewest = min(fewest, len(ends)+1)
		}
	}
	return fewest
}

// areBreaks reports whether snows are breaks.
func areBreaks(loss [][]int, most int, breaks []int) bool {
	for i := 1; i < len(breaks); i++ {
		if breaks[i] <= breaks[i-1] || goodAll(loss, most, breaks[i-1], breaks[i]) >= 0 {
			return false
		}
	}
	return len(breaks) > 0
}

// slowCost returns the cost of a pairing.
func slowCost(stiff []int, pairs [][2]int) int {
	sum := 0
	for _, p := range pairs {
		a, b := stiff[p[0]], stiff[p[1]]
		sum += max(a, b) - min(a, b)
	}
	return sum
}

// pairings returns all pairings of skis.
func pairings(skis []int) [][][2]int {
	if len(skis) == 0 {
		return [][][2]int{nil}
	}
	var all [][][2]int
	for i := 1; i < len(skis); i++ {
		others := slices.Concat(skis[1:i], skis[i+1:])
		for _, pairs := range pairings(others) {
			all = append(all, slices.Concat([][2]int{{skis[0], skis[i]}}, pairs))
		}
	}
	return all
}

// upTo returns the numbers less than n.
func upTo(n int) []int {
	var l []int
	for x := 0; x < n; x++ {
		l = append(l, x)
	}
	return l
}

// slowMatch returns the least cost of all pairings.
func slowMatch(stiff []int) int {
	least := -1
	for _, pairs := range pairings(upTo(len(stiff))) {
		if n := slowCost(stiff, pairs); least < 0 || n < least {
			least = n
		}
	}
	return least
}

// areGaps reports whether spans are gaps.
func areGaps(stiff []int, gaps []api.Span) bool {
	for i, g := range gaps {
		soft := 0
		for _, n := range stiff {
			if n > g.Lo && n < g.Hi {
				return false
			}
			if n <= g.Lo {
				soft++
			}
		}
		if g.Lo >= g.Hi || i > 0 && g.Lo < gaps[i-1].Hi || soft%2 == 0 {
			return false
		}
	}
	return true
}

// someLab returns a lab of skis with at most so many runs.
func someLab(g *rand.Rand, skis, runs int) ski.Lab {
	l := ski.Lab{Skis: skis, Error: g.Intn(4)}
	if skis < 2 {
		return l
	}
	for range g.Intn(runs + 1) {
		a := g.Intn(skis)
		b := (a + 1 + g.Intn(skis-1)) % skis
		l.Runs = append(l.Runs, run(a, b, g.Intn(13)-6))
	}
	return l
}

// someSound returns a lab whose runs do not contradict each other: an order of
// its skis is what they show.
func someSound(g *rand.Rand, skis, runs int) ski.Lab {
	l := someLab(g, skis, runs)
	order := g.Perm(skis)
	for k, r := range l.Runs {
		if r.Lead > l.Error && before(order, r.B, r.A) || r.Lead < -l.Error && before(order, r.A, r.B) {
			l.Runs[k].Lead = -r.Lead
		}
	}
	return l
}

// someTable returns a table of waxes.
func someTable(g *rand.Rand, waxes, snows int) [][]int {
	loss := make([][]int, waxes)
	for wax := range loss {
		for range snows {
			loss[wax] = append(loss[wax], g.Intn(8))
		}
	}
	return loss
}

// someSingles returns single skis.
func someSingles(g *rand.Rand, most int) []int {
	stiff := make([]int, 2+2*g.Intn(most/2))
	for i := range stiff {
		stiff[i] = g.Intn(20)
	}
	return stiff
}
