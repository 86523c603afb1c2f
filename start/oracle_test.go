package start_test

import (
	"math/rand"
	"slices"

	"klister/start"
)

// This file says the chapter's terms again in the slowest way, for tests to
// compare with: all orders, all gates, all sets of bibs, and races tenth by tenth.

// permutations returns all orders of so many numbers.
func permutations(n int) [][]int {
	if n == 0 {
		return [][]int{{}}
	}
	var all [][]int
	for _, p := range permutations(n - 1) {
		for at := 0; at < n; at++ {
			all = append(all, slices.Insert(slices.Clone(p), at, n-1))
		}
	}
	return all
}

// apartOf compares all pairs of places.
func apartOf(f []start.Skier, order []int) int {
	least := len(f)
	for a := range order {
		for b := 0; b < a; b++ {
			if f[order[a]].Nation == f[order[b]].Nation && a-b < least {
				least = a - b
			}
		}
	}
	return least
}

// parts returns all decreasing lists of numbers from most down to 1 with a sum.
func parts(sum, most int) [][]int {
	if sum == 0 {
		return [][]int{{}}
	}
	var all [][]int
	for first := min(sum, most); first >= 1; first-- {
		for _, rest := range parts(sum-first, first) {
			all = append(all, append([]int{first}, rest...))
		}
	}
	return all
}

// sizeOf counts the skiers of a nation.
func sizeOf(f []start.Skier, nation int) int {
	n := 0
	for _, s := range f {
		if s.Nation == nation {
			n++
		}
	}
	return n
}

// boundOf is the bound of nations, each with at least 2 skiers.
func boundOf(f []start.Skier, nations []int) int {
	least := len(f)
	for _, nation := range nations {
		least = min(least, sizeOf(f, nation))
	}
	bound := 0
	for (bound+1)*(least-1) <= len(f)-len(nations) {
		bound++
	}
	return bound
}

// subsets returns all sets of so many numbers, each in increasing order.
func subsets(n int) [][]int {
	var all [][]int
	for set := 0; set < 1<<n; set++ {
		var l []int
		for i := 0; i < n; i++ {
			if set&(1<<i) != 0 {
				l = append(l, i)
			}
		}
		all = append(all, l)
	}
	return all
}

// nearOf reports whether two times differ by less than a clear time.
func nearOf(a, b, clear int) bool { return a-b < clear && b-a < clear }

// clearOf reports whether a list has clear gates.
func clearOf(l []start.Start, clear int) bool {
	for i, a := range l {
		if a.Gate < 1 {
			return false
		}
		for j, b := range l {
			if i != j && a.Gate == b.Gate && nearOf(a.Time, b.Time, clear) {
				return false
			}
		}
	}
	return true
}

// gatesOf tries one gate more, and all ways to give these to the starts.
func gatesOf(l []start.Start, clear int) int {
	list := slices.Clone(l)
	var fits func(i, gates int) bool
	fits = func(i, gates int) bool {
		if i == len(list) {
			return clearOf(list, clear)
		}
		for gate := 1; gate <= gates; gate++ {
			list[i].Gate = gate
			if fits(i+1, gates) {
				return true
			}
		}
		return false
	}
	gates := 0
	for !fits(0, gates) {
		gates++
	}
	return gates
}

// crowdOf reports whether bibs are a crowd.
func crowdOf(l []start.Start, clear int, bibs []int) bool {
	times := map[int]int{}
	for _, s := range l {
		times[s.Bib] = s.Time
	}
	for i, a := range bibs {
		for j, b := range bibs {
			if i != j && (a == b || !nearOf(times[a], times[b], clear)) {
				return false
			}
		}
		if _, found := times[a]; !found {
			return false
		}
	}
	return true
}

// enteredAt tries one interval later until no start has the time.
func enteredAt(l []start.Start, interval int) int {
	if len(l) == 0 {
		return 0
	}
	time := l[0].Time
	for slices.ContainsFunc(l, func(s start.Start) bool { return s.Time == time }) {
		time += interval
	}
	return time
}

// finishedBy counts the laps whose times are not greater than a time.
func finishedBy(times []int, time int) int {
	n := 0
	for _, t := range times {
		if t <= time {
			n++
		}
	}
	return n
}

// lappedOf goes through a race tenth by tenth, up to a time that no lap exceeds.
func lappedOf(r start.Race, end int) ([]start.Out, []int) {
	var outs []start.Out
	counted := make([]int, len(r.Bibs))
	gone := make([]bool, len(r.Bibs))
	for time := 0; time <= end; time++ {
		var now []start.Out
		var who []int
		for i := range r.Bibs {
			by := 0
			for j, other := range r.Bibs {
				lap := slices.Index(r.Times[j], time) + 1
				if i != j && !gone[j] && lap > 0 && lap-finishedBy(r.Times[i], time) >= 2 && (by == 0 || other < by) {
					by = other
				}
			}
			if !gone[i] {
				counted[i] = finishedBy(r.Times[i], time)
			}
			if !gone[i] && by > 0 {
				now = append(now, start.Out{Bib: r.Bibs[i], Done: counted[i], Time: time, By: by})
				who = append(who, i)
			}
		}
		for _, i := range who {
			gone[i] = true
		}
		slices.SortFunc(now, func(a, b start.Out) int { return a.Bib - b.Bib })
		outs = append(outs, now...)
	}
	return outs, counted
}

// distinct returns so many numbers from 1 to most, no two of them equal.
func distinct(g *rand.Rand, n, most int) []int {
	var l []int
	for len(l) < n {
		if x := 1 + g.Intn(most); !slices.Contains(l, x) {
			l = append(l, x)
		}
	}
	return l
}

// someField returns a field of so many skiers, of some nations.
func someField(g *rand.Rand, n, nations int) []start.Skier {
	bibs, ranks := distinct(g, n, start.MaxBib), distinct(g, n, start.MaxRank)
	f := make([]start.Skier, n)
	for i := range f {
		f[i] = start.Skier{Bib: bibs[i], Nation: g.Intn(nations), Rank: ranks[i]}
	}
	return f
}

// someList returns a start list of so many starts, within some tenths.
func someList(g *rand.Rand, n, tenths int) []start.Start {
	bibs := distinct(g, n, start.MaxBib)
	times := make([]int, n)
	for i := range times {
		times[i] = g.Intn(tenths)
	}
	slices.Sort(times)
	l := make([]start.Start, n)
	for i := range l {
		l[i] = start.Start{Bib: bibs[i], Time: times[i], Gate: g.Intn(4)}
	}
	return l
}

// someRace returns a race of few skiers, within some tenths.
func someRace(g *rand.Rand, skiers, laps, tenths int) start.Race {
	r := start.Race{Laps: laps}
	bibs := distinct(g, skiers, start.MaxBib)
	for _, bib := range bibs {
		times := g.Perm(tenths)[:g.Intn(laps+1)]
		slices.Sort(times)
		r.Bibs = append(r.Bibs, bib)
		r.Times = append(r.Times, times)
	}
	return r
}

// without returns a race without some bibs.
func without(r start.Race, outs []start.Out) start.Race {
	left := start.Race{Laps: r.Laps}
	for i, bib := range r.Bibs {
		if !slices.ContainsFunc(outs, func(o start.Out) bool { return o.Bib == bib }) {
			left.Bibs = append(left.Bibs, bib)
			left.Times = append(left.Times, r.Times[i])
		}
	}
	return left
}
