package rifle_test

import (
	"iter"
	"math/rand"
	"slices"

	"klister/api"
	"klister/rifle"
)

// This file says the chapter's terms again in the slowest way, for tests to
// compare with: all truths one by one, all checks, all sets of holds, and all waits.

func span(lo, hi int) api.Span { return api.Span{Lo: lo, Hi: hi} }

func node(rifleIndex, pass, fail int) rifle.Node {
	return rifle.Node{Rifle: rifleIndex, Pass: pass, Fail: fail}
}

// tests returns tests of pairs of a mass and a reading.
func tests(l ...int) []rifle.Test {
	var all []rifle.Test
	for i := 0; i < len(l); i += 2 {
		all = append(all, rifle.Test{Mass: l[i], Reading: l[i+1]})
	}
	return all
}

// four returns the scale of the chapter's example 1, and less that of example 2.
func four() rifle.Scale {
	return rifle.Scale{Error: 2, Least: 3500, Tests: tests(1000, 1005, 2000, 2009), Rifles: []int{3510, 3509, 3504, 3506}}
}

func less() rifle.Scale {
	s := four()
	s.Tests = s.Tests[:1]
	return s
}

// seven returns the scale of example 3.
func seven() rifle.Scale {
	return rifle.Scale{Least: 3500, Rifles: []int{3500, 3510, 3520, 3530, 3540, 3550, 3560}}
}

// allows reports whether an offset allows a test.
func allows(s rifle.Scale, t rifle.Test, offset int) bool {
	for e := -s.Error; e <= s.Error; e++ {
		if t.Mass+offset+e == t.Reading {
			return true
		}
	}
	return false
}

// offsets returns the offsets that allow some tests of a scale.
func offsets(s rifle.Scale, l ...rifle.Test) []int {
	var all []int
	for o := -rifle.MaxOffset; o <= rifle.MaxOffset; o++ {
		if !slices.ContainsFunc(l, func(t rifle.Test) bool { return !allows(s, t, o) }) {
			all = append(all, o)
		}
	}
	return all
}

// clash returns the first two tests that contradict each other, if any do.
func clash(s rifle.Scale) (int, int, bool) {
	for i := range s.Tests {
		for j := i; j < len(s.Tests); j++ {
			if len(offsets(s, s.Tests[i], s.Tests[j])) == 0 {
				return i, j, true
			}
		}
	}
	return 0, 0, false
}

// weighs returns what a rifle can weigh with an offset.
func weighs(s rifle.Scale, k, offset int) []int {
	var all []int
	for e := -s.Error; e <= s.Error; e++ {
		all = append(all, s.Rifles[k]-offset-e)
	}
	return all
}

// allWeights returns what a rifle can weigh, in increasing order.
func allWeights(s rifle.Scale, k int) []int {
	var all []int
	for _, o := range offsets(s, s.Tests...) {
		all = append(all, weighs(s, k, o)...)
	}
	slices.Sort(all)
	return slices.Compact(all)
}

// outcome says which rifles pass in a truth.
type outcome [rifle.MaxRifles]bool

// outcomes returns what all truths of a scale show of its rifles.
func outcomes(s rifle.Scale) []outcome {
	found := map[outcome]bool{}
	var all []outcome
	last := map[[rifle.MaxRifles][2]bool]bool{}
	for _, o := range offsets(s, s.Tests...) {
		can := [rifle.MaxRifles][2]bool{}
		for k := range s.Rifles {
			for _, n := range weighs(s, k, o) {
				can[k][whether(n >= s.Least)] = true
			}
		}
		if last[can] {
			continue
		}
		last[can] = true
		for x := range combined(can, len(s.Rifles)) {
			if !found[x] {
				found[x] = true
				all = append(all, x)
			}
		}
	}
	return all
}

func whether(yes bool) int {
	if yes {
		return 1
	}
	return 0
}

// combined yields all outcomes in which each rifle passes, or fails, as it can.
func combined(can [rifle.MaxRifles][2]bool, size int) iter.Seq[outcome] {
	return func(yield func(outcome) bool) {
		for set := range 1 << size {
			var x outcome
			fits := true
			for k := range size {
				x[k] = set>>k&1 == 1
				fits = fits && can[k][whether(x[k])]
			}
			if fits && !yield(x) {
				return
			}
		}
	}
}

// with returns the outcomes in which a rifle passes, or does not.
func with(all []outcome, k int, pass bool) []outcome {
	return slices.DeleteFunc(slices.Clone(all), func(x outcome) bool { return x[k] != pass })
}

// isOpen reports whether a rifle passes in some outcomes, and not in all.
func isOpen(all []outcome, k int) bool {
	return len(with(all, k, true)) > 0 && len(with(all, k, false)) > 0
}

// opens returns the rifles that are open.
func opens(s rifle.Scale, all []outcome) []int {
	var list []int
	for k := range s.Rifles {
		if isOpen(all, k) {
			list = append(list, k)
		}
	}
	return list
}

// fewest returns the least depth of a plan that decides all rifles in some outcomes.
func fewest(s rifle.Scale, all []outcome) int {
	best := 0
	for i, k := range opens(s, all) {
		n := 1 + max(fewest(s, with(all, k, true)), fewest(s, with(all, k, false)))
		if i == 0 || n < best {
			best = n
		}
	}
	return best
}

// depth makes the checks of a plan in each truth: it returns the greatest number
// of them, and whether they decide in each one.
func depth(s rifle.Scale, plan []rifle.Node) (int, bool) {
	all := outcomes(s)
	most, decides := 0, true
	for _, x := range all {
		left, checks := all, 0
		for at := 0; at != rifle.None && len(plan) > 0; checks++ {
			k := plan[at].Rifle
			left = with(left, k, x[k])
			at = []int{plan[at].Fail, plan[at].Pass}[whether(x[k])]
		}
		most = max(most, checks)
		decides = decides && len(opens(s, left)) == 0
	}
	return most, decides
}

// someScale returns a scale whose readings are near each other, of which some have no truth.
func someScale(g *rand.Rand, rifles int) rifle.Scale {
	s := rifle.Scale{Error: g.Intn(4), Least: 3500}
	base := g.Intn(2030) - 1015
	for range g.Intn(4) {
		mass := 1 + g.Intn(rifle.MaxMass)
		if reading := mass + base + g.Intn(2*s.Error+3) - s.Error - 1; reading >= 0 {
			s.Tests = append(s.Tests, rifle.Test{Mass: mass, Reading: reading})
		}
	}
	for range 1 + g.Intn(rifles) {
		s.Rifles = append(s.Rifles, s.Least+base+g.Intn(12)-6)
	}
	return s
}

// sound returns a scale with a truth.
func sound(g *rand.Rand, rifles int) rifle.Scale {
	for {
		if s := someScale(g, rifles); len(offsets(s, s.Tests...)) > 0 {
			return s
		}
	}
}

// holds returns holds of pairs of minutes.
func holds(l ...int) []rifle.Hold {
	var all []rifle.Hold
	for i := 0; i < len(l); i += 2 {
		all = append(all, rifle.Hold{From: l[i], To: l[i+1]})
	}
	return all
}

// five returns the guard of example 4.
func five() []rifle.Hold { return holds(0, 10, 5, 30, 8, 20, 20, 40, 29, 60) }

// covers reports whether a hold covers a minute.
func covers(h rifle.Hold, t int) bool { return h.From <= t && h.To >= t+1 }

// gap returns the first minute of a span that no hold covers, or its last one.
func gap(l []rifle.Hold, from, to int) int {
	for t := from; t < to; t++ {
		if !slices.ContainsFunc(l, func(h rifle.Hold) bool { return covers(h, t) }) {
			return t
		}
	}
	return to
}

// few returns the least number of holds that guard a span that is guarded.
func few(l []rifle.Hold, from, to int) int {
	best := len(l)
	for set := range 1 << len(l) {
		var some []rifle.Hold
		for k, h := range l {
			if set>>k&1 == 1 {
				some = append(some, h)
			}
		}
		if len(some) < best && gap(some, from, to) == to {
			best = len(some)
		}
	}
	return best
}

// areMarks reports whether minutes are marks.
func areMarks(l []rifle.Hold, from, to int, marks []int) bool {
	for i, a := range marks {
		if a < from || a >= to {
			return false
		}
		for _, b := range marks[i+1:] {
			if a >= b || slices.ContainsFunc(l, func(h rifle.Hold) bool { return covers(h, a) && covers(h, b) }) {
				return false
			}
		}
	}
	return true
}

// someGuard returns a guard of at most so many holds from 0 to a last minute.
func someGuard(g *rand.Rand, most, last, length int) []rifle.Hold {
	var l []rifle.Hold
	for range 1 + g.Intn(most) {
		from := g.Intn(last + 1)
		l = append(l, rifle.Hold{Who: g.Intn(100), From: from, To: min(last, from+g.Intn(length))})
	}
	return l
}

// two returns the aim of example 5.
func two() [][]int { return [][]int{{500, 300, 200, 150}, {400, 350, 320}} }

// sum returns the misses of waits.
func sum(a [][]int, waits []int) int {
	n := 0
	for k, w := range waits {
		n += a[k][w]
	}
	return n
}

// breaths returns how many breaths waits have in all.
func breaths(waits []int) int {
	n := 0
	for _, w := range waits {
		n += w
	}
	return n
}

// allWaits yields all waits of an aim.
func allWaits(a [][]int) iter.Seq[[]int] {
	return func(yield func([]int) bool) {
		waits := make([]int, len(a))
		for {
			if !yield(slices.Clone(waits)) {
				return
			}
			k := 0
			for ; k < len(a) && waits[k] == len(a[k])-1; k++ {
				waits[k] = 0
			}
			if k == len(a) {
				return
			}
			waits[k]++
		}
	}
}

// best returns all waits of at most so many breaths with the fewest misses.
func best(a [][]int, total int) [][]int {
	var list [][]int
	for w := range allWaits(a) {
		if breaths(w) > total {
			continue
		}
		if len(list) > 0 && sum(a, w) < sum(a, list[0]) {
			list = nil
		}
		if len(list) == 0 || sum(a, w) == sum(a, list[0]) {
			list = append(list, w)
		}
	}
	return list
}

// isPrice reports whether a price holds for waits.
func isPrice(a [][]int, waits []int, price int) bool {
	for k, w := range waits {
		for other := range a[k] {
			if a[k][other]+price*other < a[k][w]+price*w {
				return false
			}
		}
	}
	return true
}

// someAim returns an aim of shots whose chances get less.
func someAim(g *rand.Rand, shots, waits, most int) [][]int {
	var a [][]int
	for range 1 + g.Intn(shots) {
		helps := make([]int, g.Intn(waits))
		for k := range helps {
			helps[k] = g.Intn(most)
		}
		slices.Sort(helps)
		list := []int{g.Intn(20)}
		for _, h := range helps {
			list = append(list, list[len(list)-1]+h)
		}
		slices.Reverse(list)
		a = append(a, list)
	}
	return a
}
