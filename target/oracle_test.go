package target_test

import (
	"math/rand"
	"slices"

	"klister/api"
	"klister/target"
)

// This file says the chapter's terms again in the slowest way, for tests to
// compare with: all assignments, all sets of lanes, all truths of sheets, and
// rounds place by place.

func span(lo, hi int) api.Span { return api.Span{Lo: lo, Hi: hi} }

func in(n int, s api.Span) bool { return n >= s.Lo && n <= s.Hi }

func pair(skier, lane int) target.Pair { return target.Pair{Skier: skier, Lane: lane} }

// canOf reports whether a skier can have hit targets of a lane.
func canOf(b target.Bout, skier, lane int) bool {
	return skier == lane || slices.Contains(b.Across, pair(skier, lane))
}

// canAnyOf reports whether a skier can have hit targets of some of these lanes.
func canAnyOf(b target.Bout, skier int, lanes []int) bool {
	for _, lane := range lanes {
		if canOf(b, skier, lane) {
			return true
		}
	}
	return false
}

func sumOf(numbers []int) int {
	sum := 0
	for _, n := range numbers {
		sum += n
	}
	return sum
}

// splits returns all lists of so many numbers, none less than 0, with a sum.
func splits(sum, size int) [][]int {
	if size == 0 {
		if sum == 0 {
			return [][]int{{}}
		}
		return nil
	}
	var all [][]int
	for first := 0; first <= sum; first++ {
		for _, rest := range splits(sum-first, size-1) {
			all = append(all, append([]int{first}, rest...))
		}
	}
	return all
}

// assignments returns all assignments of a bout, made lane by lane.
func assignments(b target.Bout) [][][]int {
	n := len(b.Shots)
	all := [][][]int{make([][]int, n)}
	for lane := 0; lane < n; lane++ {
		var next [][][]int
		for _, table := range all {
			for _, hits := range splits(b.Down[lane], n) {
				more := make([][]int, n)
				good := true
				for i := range more {
					more[i] = append(slices.Clone(table[i]), hits[i])
					good = good && sumOf(more[i]) <= b.Shots[i] && (hits[i] == 0 || canOf(b, i, lane))
				}
				if good {
					next = append(next, more)
				}
			}
		}
		all = next
	}
	return all
}

// spanOf returns the least and the greatest number of all tables.
func spanOf(tables [][][]int, number func(table [][]int) int) api.Span {
	s := span(number(tables[0]), number(tables[0]))
	for _, table := range tables {
		s.Lo, s.Hi = min(s.Lo, number(table)), max(s.Hi, number(table))
	}
	return s
}

// laneSets returns all strictly increasing lists of lanes, of so many lanes.
func laneSets(n int) [][]int {
	var all [][]int
	for set := 0; set < 1<<n; set++ {
		var lanes []int
		for lane := 0; lane < n; lane++ {
			if set&(1<<lane) != 0 {
				lanes = append(lanes, lane)
			}
		}
		all = append(all, lanes)
	}
	return all
}

// shortOf returns by how much lanes are short, 0 if they are not.
func shortOf(b target.Bout, lanes []int) int {
	return max(0, downOf(b, lanes)-shotsOf(b, lanes, -1))
}

func downOf(b target.Bout, lanes []int) int {
	down := 0
	for _, lane := range lanes {
		down += b.Down[lane]
	}
	return down
}

// shotsOf adds the shots of all who can have hit lanes, but for one skier.
func shotsOf(b target.Bout, lanes []int, but int) int {
	shots := 0
	for i, n := range b.Shots {
		if i != but && canAnyOf(b, i, lanes) {
			shots += n
		}
	}
	return shots
}

// shownOf returns what lanes show, sentence by sentence.
func shownOf(b target.Bout, skier, lane int, lanes []int) api.Span {
	bound, down := shotsOf(b, lanes, skier), downOf(b, lanes)
	var others []int
	for _, x := range lanes {
		if x != lane {
			others = append(others, x)
		}
	}
	var s api.Span
	if slices.Contains(lanes, lane) && !canAnyOf(b, skier, others) && down-bound > 0 {
		s.Lo = down - bound
	}
	if canOf(b, skier, lane) {
		s.Hi = min(b.Shots[skier], b.Down[lane])
	}
	if !slices.Contains(lanes, lane) && canAnyOf(b, skier, lanes) && bound+b.Shots[skier]-down < s.Hi {
		s.Hi = bound + b.Shots[skier] - down
	}
	return s
}

// someBout returns a bout with an assignment that really was.
func someBout(g *rand.Rand, n, spare int) (target.Bout, [][]int) {
	b := target.Bout{Shots: make([]int, n), Down: make([]int, n)}
	hits := make([][]int, n)
	likely := g.Intn(4)
	for i := range hits {
		hits[i] = make([]int, n)
		for lane := range hits {
			if i != lane && g.Intn(4) < likely {
				b.Across = append(b.Across, pair(i, lane))
			}
		}
	}
	for try := 0; try < 5*n+spare; try++ {
		i, lane := g.Intn(n), g.Intn(n)
		if b.Shots[i] == target.MaxShots || g.Intn(8) == 0 {
			continue
		}
		b.Shots[i]++
		if canOf(b, i, lane) && b.Down[lane] < target.Targets {
			b.Down[lane]++
			hits[i][lane]++
		} else if try%2 == 0 {
			b.Shots[i]--
		}
	}
	return b, hits
}

// wildBout returns a bout that can be without an assignment.
func wildBout(g *rand.Rand, n int) target.Bout {
	b, _ := someBout(g, n, g.Intn(4))
	for range g.Intn(4) {
		i := g.Intn(n)
		if g.Intn(2) == 0 {
			b.Shots[i] = max(0, b.Shots[i]-1)
		} else {
			b.Down[i] = min(target.Targets, b.Down[i]+1)
		}
	}
	return b
}

// truths returns all truths of sheets after n bouts: numbers that grow bout by
// bout, and that are given up as soon as a sheet that has ended is wrong.
func truths(n int, l []target.Sheet) [][]int {
	all := [][]int{{}}
	for bout := 0; bout < n; bout++ {
		var next [][]int
		for _, head := range all {
			for loops := 0; loops <= 9; loops++ {
				more := append(slices.Clone(head), loops)
				if !slices.ContainsFunc(l, func(s target.Sheet) bool {
					return s.To == bout && !in(sumOf(more[s.From:bout+1]), s.Loops)
				}) {
					next = append(next, more)
				}
			}
		}
		all = next
	}
	return all
}

// enough reports whether as many loops were skied as are owed.
func enough(loops, owed []int) bool {
	for i, n := range owed {
		if loops[i] < n {
			return false
		}
	}
	return true
}

// fewOf reports whether no truth has enough loops.
func fewOf(owed []int, l []target.Sheet) bool {
	return !slices.ContainsFunc(truths(len(owed), l), func(loops []int) bool { return enough(loops, owed) })
}

// stepOf returns where a step begins and ends, and what it counts.
func stepOf(owed []int, l []target.Sheet, s target.Step) (from, to, counts int) {
	switch s.Kind {
	case target.High:
		return l[s.Index].From, l[s.Index].To + 1, l[s.Index].Loops.Hi
	case target.Low:
		return l[s.Index].To + 1, l[s.Index].From, -l[s.Index].Loops.Lo
	case target.Most:
		return s.Index, s.Index + 1, 9
	case target.Zero:
		return s.Index + 1, s.Index, 0
	}
	return s.Index + 1, s.Index, -owed[s.Index]
}

// roundOf returns the sum of steps, and whether they are closed.
func roundOf(owed []int, l []target.Sheet, round []target.Step) (sum int, closed bool) {
	closed = true
	for i, s := range round {
		from, _, counts := stepOf(owed, l, s)
		_, at, _ := stepOf(owed, l, round[(i+len(round)-1)%len(round)])
		closed = closed && from == at
		sum += counts
	}
	return sum, closed
}

// allSteps returns each step that there is.
func allSteps(n int, l []target.Sheet) []target.Step {
	var all []target.Step
	for i := range l {
		all = append(all, target.Step{Kind: target.High, Index: i}, target.Step{Kind: target.Low, Index: i})
	}
	for i := 0; i < n; i++ {
		for _, k := range []target.Kind{target.Most, target.Zero, target.Owed} {
			all = append(all, target.Step{Kind: k, Index: i})
		}
	}
	return all
}

// someSheets returns loops that really were skied after n bouts, and sheets of
// which each is true, with gaps up to some loops.
func someSheets(g *rand.Rand, n, sheets, gap int) ([]int, []target.Sheet) {
	loops := make([]int, n)
	for i := range loops {
		loops[i] = []int{0, 0, 0, 1, 1, 2, 2, 3, 4, 5, 7, 9}[g.Intn(12)]
	}
	l := make([]target.Sheet, sheets)
	for i := range l {
		from := g.Intn(n)
		to := from + g.Intn(n-from)
		sum := sumOf(loops[from : to+1])
		l[i] = target.Sheet{From: from, To: to, Loops: span(max(0, sum-g.Intn(gap+1)), min(72, sum+g.Intn(gap+1)))}
	}
	return loops, l
}

// wildSheets returns sheets of which some can be false.
func wildSheets(g *rand.Rand, n, sheets, gap int) []target.Sheet {
	_, l := someSheets(g, n, sheets, gap)
	for i := range l {
		if g.Intn(6) == 0 {
			lo := g.Intn(12)
			l[i].Loops = span(lo, lo+g.Intn(gap+1))
		}
	}
	return l
}

// someOwed returns loops that are owed, few of them mostly.
func someOwed(g *rand.Rand, n int) []int {
	owed := make([]int, n)
	for i := range owed {
		owed[i] = []int{0, 0, 0, 1, 1, 2, 3, 5}[g.Intn(8)]
	}
	return owed
}
