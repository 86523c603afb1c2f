package target_test

import (
	"math"
	"math/rand"
	"testing"

	"klister/api"
	"klister/target"
)

// anyone returns numbers at which something ends, or that no one would pass.
type anyone struct{ *rand.Rand }

func (g anyone) number() int {
	all := []int{math.MinInt, -20001, -20000, -1, 0, 0, 0, 1, 1, 1, 2, 2, 3, 4, 5, 6, 7, 8, 9, 72, 73, 225, 575, 2500, 20000, 20001, math.MaxInt}
	return all[g.Intn(len(all))]
}

// size returns how many elements a list has: few, none, or too many.
func (g anyone) size() int {
	all := []int{0, 1, 1, 2, 2, 3, 3, 4, 5, 8, 9, 20, 21, 40, 41}
	return all[g.Intn(len(all))]
}

func (g anyone) list() []int {
	var l []int
	for range g.size() {
		l = append(l, g.number())
	}
	return l
}

// bout, sheets, owed, round and shots return lists whose numbers are mostly allowed.
func (g anyone) bout() target.Bout {
	b := wildBout(g.Rand, 1+g.Intn(8))
	switch g.Intn(8) {
	case 0:
		b.Shots[g.Intn(len(b.Shots))] = g.number()
	case 1:
		b.Down[g.Intn(len(b.Down))] = g.number()
	case 2:
		b.Across = append(b.Across, pair(g.number(), g.number()))
	case 3:
		b = target.Bout{Shots: g.list(), Down: g.list(), Across: b.Across}
	}
	return b
}

func (g anyone) sheets(n int) []target.Sheet {
	l := wildSheets(g.Rand, n, g.Intn(21), g.Intn(4))
	if len(l) > 0 && g.Intn(3) == 0 {
		l[g.Intn(len(l))] = sheet(g.number(), g.number(), g.number(), g.number())
	}
	if g.Intn(9) == 0 {
		l = append(l, make([]target.Sheet, g.size())...)
	}
	return l
}

func (g anyone) owed(n int) []int {
	if g.Intn(5) == 0 {
		return g.list()
	}
	return someOwed(g.Rand, n)
}

func (g anyone) round() []target.Step {
	var l []target.Step
	for range g.size() {
		l = append(l, step(target.Kind(g.number()), g.number()))
	}
	return l
}

func (g anyone) shots() []target.Shot {
	var l []target.Shot
	for range g.size() {
		l = append(l, target.Shot{X: g.number(), Y: g.number()})
	}
	return l
}

func (g anyone) table() [][]int {
	var l [][]int
	for range g.Intn(9) {
		l = append(l, g.list())
	}
	return l
}

// flag is 1 if something is so.
func flag(is bool) int {
	if is {
		return 1
	}
	return 0
}

// P0.1: no call panics, all end, and beside an error all results are zero (R2).
func TestAllArguments(t *testing.T) {
	g := anyone{rand.New(rand.NewSource(13))}
	zero := func(e api.Errno, results ...int) {
		for _, n := range results {
			if e != api.OK && n != 0 {
				t.Fatal("a result beside an error", e, results)
			}
		}
	}
	for range 4000 {
		b, i, lane, lanes := g.bout(), g.number(), g.number(), g.list()
		is, e := target.Fits(b, g.table())
		zero(e, flag(is))
		hits, e := target.Assign(b)
		zero(e, len(hits))
		short, e := target.Short(b)
		zero(e, len(short))
		by, e := target.Proves(b, lanes)
		zero(e, by)
		some, e := target.Hits(b, i, lane)
		zero(e, some.Lo, some.Hi)
		wasted, e := target.Wasted(b)
		zero(e, len(wasted))
		crossed, e := target.Crossed(b)
		zero(e, len(crossed))
		low, high, e := target.Reasons(b, i, lane)
		zero(e, len(low), len(high))
		shown, e := target.Shows(b, i, lane, lanes)
		zero(e, shown.Lo, shown.Hi)
		n := 1 + g.Intn(8)
		l, owed, round := g.sheets(n), g.owed(n), g.round()
		if g.Intn(4) == 0 {
			n = g.number()
		}
		skied, e := target.Skied(n, l)
		zero(e, len(skied))
		between, e := target.Between(n, l, g.number(), g.number())
		zero(e, between.Lo, between.Hi)
		few, e := target.Few(owed, l)
		zero(e, flag(few))
		found, e := target.Round(owed, l)
		zero(e, len(found))
		shows, e := target.RoundShows(owed, l, round)
		zero(e, shows)
		due, e := target.Due([][]int{owed, {0}}, [][]target.Sheet{l, nil})
		zero(e, len(due))
		p, shots := target.Position(g.Intn(3)), g.shots()
		falls, e := target.Falls(p, shots)
		zero(e, len(falls))
		loops, e := target.Loops(p, shots)
		zero(e, loops)
		spares, e := target.Spares(p, shots)
		zero(e, spares)
	}
}
