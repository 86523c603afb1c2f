package ski_test

import (
	"math"
	"math/rand"
	"reflect"
	"slices"
	"testing"

	"klister/api"
	"klister/ski"
)

// anyone returns numbers at which something ends, or that no one would pass.
type anyone struct{ *rand.Rand }

func (g anyone) number() int {
	all := []int{math.MinInt, -100001, -10001, -10000, -1001, -6, -2, -1, 0, 0, 0, 1, 1, 1, 2, 2, 3, 3, 4, 5, 6, 7, 8, 9, 11, 12, 13, 19, 20, 21, 1000, 1001, 10000, 10001, 100000, 100001, math.MaxInt}
	return all[g.Intn(len(all))]
}

// list returns a list with few numbers, none, or too many.
func (g anyone) list() []int {
	sizes := []int{0, 1, 2, 2, 3, 4, 4, 6, 8, 16, 17, 18, 20, 21, 60}
	var l []int
	for range sizes[g.Intn(len(sizes))] {
		l = append(l, g.number())
	}
	return l
}

// small returns a list of small numbers.
func (g anyone) small() []int {
	var l []int
	for range g.Intn(5) {
		l = append(l, g.Intn(7)-1)
	}
	return l
}

// table returns a table that is mostly allowed.
func (g anyone) table() [][]int {
	loss := someTable(g.Rand, 1+g.Intn(4), 1+g.Intn(5))
	switch g.Intn(8) {
	case 0:
		loss[0] = g.list()
	case 1:
		loss[0][0] = g.number()
	case 2:
		loss = rows(g.Intn(15), g.Intn(23))
	case 3:
		loss = [][]int{g.list(), g.list()}
	}
	return loss
}

// lab returns a lab that is mostly allowed.
func (g anyone) lab() ski.Lab {
	l := someLab(g.Rand, 1+g.Intn(8), 8)
	if g.Intn(2) == 0 {
		l = someSound(g.Rand, 1+g.Intn(5), 8)
	}
	switch g.Intn(10) {
	case 0:
		l.Skis = g.number()
	case 1:
		l.Error = g.number()
	case 2:
		l.Runs = many(g.Intn(60), run(0, 1, g.number()))
	case 3:
		l = more(l, run(g.number(), g.number(), g.number()))
	}
	return l
}

// singles returns single skis that are mostly allowed.
func (g anyone) singles() []int {
	stiff := someSingles(g.Rand, 16)
	switch g.Intn(6) {
	case 0:
		stiff = g.list()
	case 1:
		stiff[0] = g.number()
	}
	return stiff
}

func (g anyone) spans() []api.Span {
	var l []api.Span
	for range g.Intn(19) {
		l = append(l, span(g.number(), g.number()))
	}
	return l
}

func (g anyone) pairs(n int) [][2]int {
	var l [][2]int
	for i := range n {
		p := [2]int{2 * i, 2*i + 1}
		if g.Intn(10) == 0 {
			p[g.Intn(2)] = g.number()
		}
		l = append(l, p)
	}
	return l
}

// P0.1: no call panics, all end, and beside an error all results are zero (R2).
func TestAllArguments(t *testing.T) {
	g := anyone{rand.New(rand.NewSource(19))}
	zero := func(e api.Errno, results ...int) {
		t.Helper()
		for _, n := range results {
			if e != api.OK && n != 0 {
				t.Fatal("a result beside an error", e, results)
			}
		}
	}
	for range 2000 {
		l, k, a, b := g.lab(), g.number(), g.number(), g.number()
		ski.Check(l)
		pairs, e := ski.Faster(l)
		zero(e, len(pairs))
		chain, e := ski.Chain(l, a, b)
		zero(e, len(chain))
		is, e := ski.ChainShows(l, a, b, g.small())
		zero(e, flag(is))
		list, e := ski.Round(l)
		zero(e, len(list))
		drop, e := ski.Drop(l)
		zero(e, len(drop))
		spans, e := ski.Places(l)
		zero(e, len(spans))
		orders, e := ski.Orders(l)
		zero(e, orders)
		first, e := ski.First(l)
		zero(e, len(first))
		known, e := ski.Known(l, k)
		zero(e, flag(known))
		fewest, e := ski.Fewest(l, k)
		zero(e, fewest)
		worth, e := ski.Worth(l, k, a, b)
		zero(e, worth)
		next, e := ski.Next(l, k)
		zero(e, next.A, next.B, next.Lead)
	}
	for range 2000 {
		loss, most, stiff := g.table(), g.number(), g.singles()
		regrets, e := ski.Regrets(loss)
		zero(e, len(regrets))
		wax, regret, e := ski.Wax(loss, g.number(), g.number())
		zero(e, wax, regret)
		bag, e := ski.Bag(loss, most)
		zero(e, len(bag))
		zones, e := ski.Zones(loss, most)
		zero(e, len(zones))
		breaks, e := ski.Breaks(loss, most)
		zero(e, len(breaks))
		is, e := ski.BreaksShow(loss, most, g.small())
		zero(e, flag(is))
		pairs, n, e := ski.Match(stiff)
		zero(e, len(pairs), n)
		cost, e := ski.Cost(stiff, g.pairs(len(stiff)/2))
		zero(e, cost)
		gaps, e := ski.Gaps(stiff)
		zero(e, len(gaps))
		sum, e := ski.GapsShow(stiff, g.spans())
		zero(e, sum)
	}
}

// R4: arguments are not modified, and results are new.
func TestLabMemory(t *testing.T) {
	l, chain := four(), []int{0, 2}
	kept := slices.Clone(l.Runs)
	for range 2 {
		pairs, _ := ski.Faster(l)
		list, _ := ski.Chain(l, 0, 2)
		around, _ := ski.Round(round())
		drop, _ := ski.Drop(round())
		spans, _ := ski.Places(l)
		first, _ := ski.First(l)
		if len(pairs) != 4 || !slices.Equal(list, []int{0, 2}) || !isRound(round(), around) || len(drop) != 1 ||
			spans[3] != span(2, 4) || !slices.Equal(first, upTo(4)) {
			t.Fatal(pairs, list, around, drop, spans, first)
		}
		ski.Check(l)
		ski.ChainShows(l, 0, 2, chain)
		ski.Orders(l)
		ski.Known(l, 4)
		ski.Fewest(l, 4)
		ski.Worth(l, 4, 1, 3)
		ski.Next(l, 4)
		clear(pairs)
		clear(list)
		clear(around)
		clear(drop)
		clear(spans)
		clear(first)
		if !slices.Equal(l.Runs, kept) || !slices.Equal(chain, []int{0, 2}) {
			t.Fatal("an argument was modified")
		}
	}
}

// R4: the same for tables and single skis; and no two rows of regrets share memory.
func TestTableMemory(t *testing.T) {
	loss, stiff, breaks := three(), six(), []int{0, 3}
	pairs := [][2]int{{1, 3}, {2, 5}, {0, 4}}
	spans := []api.Span{span(20, 23), span(38, 41), span(50, 60)}
	for range 2 {
		regrets, _ := ski.Regrets(loss)
		bag, _ := ski.Bag(loss, 1)
		zones, _ := ski.Zones(loss, 1)
		snows, _ := ski.Breaks(loss, 1)
		match, _, _ := ski.Match(stiff)
		gaps, _ := ski.Gaps(stiff)
		if !slices.Equal(bag, []int{1, 2}) || len(zones) != 2 || len(snows) != 2 || slowCost(stiff, match) != 16 || !areGaps(stiff, gaps) {
			t.Fatal(bag, zones, snows, match, gaps)
		}
		ski.Wax(loss, 0, 3)
		ski.BreaksShow(loss, 1, breaks)
		ski.Cost(stiff, pairs)
		ski.GapsShow(stiff, spans)
		for i := range regrets {
			clear(regrets[i])
			if i+1 < len(regrets) && slices.Max(regrets[i+1]) == 0 {
				t.Fatal("rows share memory")
			}
		}
		clear(bag)
		clear(zones)
		clear(snows)
		clear(match)
		clear(gaps)
		if !reflect.DeepEqual(loss, three()) || !slices.Equal(stiff, six()) || !slices.Equal(breaks, []int{0, 3}) ||
			!slices.Equal(pairs, [][2]int{{1, 3}, {2, 5}, {0, 4}}) || !slices.Equal(spans, []api.Span{span(20, 23), span(38, 41), span(50, 60)}) {
			t.Fatal("an argument was modified")
		}
	}
}

// R3: an empty list is none.
func TestEmptyLists(t *testing.T) {
	l := ski.Lab{Skis: 2, Runs: []ski.Run{}}
	if pairs, e := ski.Faster(l); len(pairs) != 0 || e != api.OK {
		t.Error(pairs, e)
	}
	for i, l := range []ski.Lab{l, lab(2)} {
		for k, list := range [][]int{nil, {}} {
			if is, e := ski.ChainShows(l, 0, 1, list); is || e != api.OK {
				t.Error(i, k, is, e)
			}
		}
	}
}
