package start_test

import (
	"math"
	"math/rand"
	"testing"

	"klister/api"
	"klister/start"
)

// anyone returns numbers at which something ends, or that no one would pass.
type anyone struct{ *rand.Rand }

func (g anyone) number() int {
	all := []int{math.MinInt, -1, 0, 0, 1, 1, 2, 2, 3, 3, 4, 5, 6, 7, 20, 21, 30, 31, 60, 61, 600, 601, 999, 1000, 6000, 6001, 9999, 10000, 360000, 360001, math.MaxInt}
	return all[g.Intn(len(all))]
}

// list returns few numbers, none, or too many.
func (g anyone) list() []int {
	sizes := []int{0, 1, 2, 2, 3, 3, 4, 5, 6, 7, 61}
	var l []int
	for range sizes[g.Intn(len(sizes))] {
		l = append(l, g.number())
	}
	return l
}

// field, starts and results return lists whose numbers are mostly allowed.
func (g anyone) field() []start.Skier {
	f := someField(g.Rand, g.Intn(6), 3)
	if len(f) > 0 && g.Intn(3) == 0 {
		f[g.Intn(len(f))] = start.Skier{Bib: g.number(), Nation: g.number(), Rank: g.number()}
	}
	return f
}

func (g anyone) starts() []start.Start {
	l := someList(g.Rand, g.Intn(6), 10)
	if len(l) > 0 && g.Intn(3) == 0 {
		l[g.Intn(len(l))] = start.Start{Bib: g.number(), Time: g.number(), Gate: g.number()}
	}
	return l
}

func (g anyone) results() []start.Result {
	var l []start.Result
	for _, n := range g.list() {
		l = append(l, start.Result{Bib: g.number(), Time: n})
	}
	return l
}

func (g anyone) race() start.Race {
	r := start.Race{Laps: g.number(), Bibs: g.list()}
	for range g.list() {
		r.Times = append(r.Times, g.list())
	}
	if g.Intn(2) == 0 {
		r = someRace(g.Rand, 4, 5, 10)
		r.Laps = g.number()
	}
	return r
}

// P0.1: no call panics, all end, and beside an error all results are zero (R2).
func TestAllArguments(t *testing.T) {
	g := anyone{rand.New(rand.NewSource(10))}
	for range 20000 {
		zero := func(e api.Errno, results ...int) {
			for _, n := range results {
				if e != api.OK && n != 0 {
					t.Fatal("a result beside an error", e, results)
				}
			}
		}
		length := func(is bool) int {
			if is {
				return 1
			}
			return 0
		}
		f, order := g.field(), g.list()
		groups, e := start.Groups(f, g.list())
		zero(e, len(groups))
		draw, e := start.Draw(f, g.list(), g.list())
		zero(e, len(draw))
		apart, e := start.Apart(f, order)
		zero(e, apart)
		spread, n, e := start.Spread(f)
		zero(e, len(spread), n)
		bound, e := start.Bound(f, order)
		zero(e, bound)
		tight, e := start.Tight(f)
		zero(e, len(tight))
		interval, e := start.Interval(f, order, g.number())
		zero(e, len(interval))
		boxes, e := start.Boxes(f, g.number())
		zero(e, len(boxes))
		results, rules := g.results(), start.Rules{Unit: g.number(), Limit: g.number()}
		deficits, e := start.Deficits(results, rules)
		zero(e, len(deficits))
		pursuit, e := start.Pursuit(results, rules)
		zero(e, len(pursuit))
		l, clear := g.starts(), g.number()
		gates, e := start.Gates(l, clear)
		zero(e, gates)
		gated, e := start.Gated(l, clear)
		zero(e, len(gated))
		is, e := start.Clear(l, clear)
		zero(e, length(is))
		crowd, e := start.Crowd(l, clear)
		zero(e, len(crowd))
		crowds, e := start.Crowds(l, clear, order)
		zero(e, length(crowds))
		withdrawn, e := start.Withdraw(l, g.number())
		zero(e, len(withdrawn))
		entered, e := start.Enter(l, g.number(), g.number())
		zero(e, len(entered))
		r := g.race()
		outs, e := start.Lapped(r)
		zero(e, len(outs))
		counted, e := start.Counted(r)
		zero(e, len(counted))
	}
}
