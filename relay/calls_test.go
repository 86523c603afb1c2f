package relay_test

import (
	"math"
	"math/rand"
	"reflect"
	"slices"
	"testing"

	"klister/api"
	"klister/relay"
)

// anyone returns numbers at which something ends, or that no one would pass.
type anyone struct{ *rand.Rand }

func (g anyone) number() int {
	all := []int{math.MinInt, -1000001, -1000000, -1, 0, 0, 0, 0, 1, 1, 1, 2, 2, 3, 4, 5, 6, 7, 8, 9, 600, 601, 999, 1000, 6000, 6001, 9000, 9001, 36000, 36001, 100000, 100001, 1000000, 1000001, math.MaxInt}
	return all[g.Intn(len(all))]
}

// numbers returns a list of a few numbers.
func (g anyone) numbers() []int {
	var list []int
	for range g.Intn(5) {
		list = append(list, g.number())
	}
	return list
}

// rules returns rules that are mostly allowed.
func (g anyone) rules() relay.Rules {
	p := someRules(g.Rand)
	switch g.Intn(16) {
	case 0:
		p.Classes = g.numbers()
	case 1:
		p.Each = g.number()
	case 2:
		p.Laps = g.number()
	case 3:
		p.Spare, p.Loop, p.Unused = g.number(), g.number(), g.number()
	}
	return p
}

// race returns a race that is mostly allowed.
func (g anyone) race() relay.Race {
	r := someRace(g.Rand, 5)
	team := &r.Teams[g.Intn(len(r.Teams))]
	switch g.Intn(16) {
	case 0:
		r.Rules = g.rules()
	case 1:
		r.Start = g.number()
	case 2:
		r.Teams = append(r.Teams, make([]relay.Team, g.Intn(14))...)
	case 3:
		team.Bib = g.number()
	case 4:
		team.Classes = g.numbers()
	case 5:
		team.Legs = append(team.Legs, relay.Leg{Skier: g.number(), Loops: g.numbers()})
	case 6:
		team.Legs = slices.Insert(team.Legs, 0, relay.Leg{Loops: []int{1, 1}, Bouts: [][]bool{make([]bool, g.Intn(11))}})
	case 7:
		team.Legs = append(team.Legs, make([]relay.Leg, g.Intn(6))...)
	case 8:
		for k := range team.Legs {
			team.Legs[k].Skier = g.number()
		}
	}
	return r
}

// squad returns a squad that mostly fits rules.
func (g anyone) squad(p relay.Rules) relay.Squad {
	s := someSquad(g.Rand, p, 5, 9)
	switch g.Intn(8) {
	case 0:
		s.Classes = g.numbers()
	case 1:
		s.Times = append(s.Times, g.numbers())
	case 2:
		s.Times[0] = g.numbers()
	}
	return s
}

// P0.1: no call panics, all end, and beside an error all results are zero (R2).
func TestAllArguments(t *testing.T) {
	g := anyone{rand.New(rand.NewSource(7))}
	zero := func(e api.Errno, results ...int) {
		t.Helper()
		for _, n := range results {
			if e != api.OK && n != 0 {
				t.Fatal("a result beside an error", e, results)
			}
		}
	}
	for range 20000 {
		p, r, n := g.rules(), g.race(), g.number()
		relay.CheckRules(p)
		came, e := relay.Shot(make([]bool, g.Intn(11)))
		zero(e, came.Spares, came.Loops, came.Unused)
		relay.Check(r)
		lists, e := relay.Times(r)
		zero(e, len(lists))
		laps, e := relay.Laps(r)
		zero(e, laps.Laps, len(laps.Bibs), len(laps.Times))
		lists, e = relay.Legs(r)
		zero(e, len(lists))
		list, e := relay.Places(r, n)
		zero(e, len(list))
		list, least, e := relay.Fastest(r, g.Intn(5))
		zero(e, len(list), least)
		outs, e := relay.Out(r)
		zero(e, len(outs))
		lists, e = relay.Breaks(r)
		zero(e, len(lists))
		results, e := relay.Results(r)
		zero(e, len(results))
		s := g.squad(p)
		relay.CheckSquad(p, s)
		time, e := relay.Takes(p, s, g.numbers())
		zero(e, time)
		list, time, e = relay.Best(p, s)
		zero(e, len(list), time)
		legs, skiers, e := relay.Prices(p, s)
		zero(e, len(legs), len(skiers))
		time, e = relay.Proves(p, s, g.numbers(), g.numbers())
		zero(e, time)
		time, e = relay.Loss(p, s, n)
		zero(e, time)
		chances, e := relay.Chances([]api.Span{span(g.number(), g.number()), span(-1, g.number())})
		zero(e, len(chances))
	}
}

// R4: arguments are not modified, and results are new.
func TestMemory(t *testing.T) {
	r, p, s := duel(), two(), trio()
	order, legs, skiers, ends := []int{2, 1}, []int{2250, 2400}, []int{0, 0, 0}, []api.Span{span(1, 2), span(0, 0)}
	for range 2 {
		times, _ := relay.Times(r)
		laps, _ := relay.Laps(r)
		took, _ := relay.Legs(r)
		places, _ := relay.Places(r, 1)
		bibs, _, _ := relay.Fastest(r, 1)
		broken, _ := relay.Breaks(r)
		results, _ := relay.Results(r)
		best, _, _ := relay.Best(p, s)
		first, second, _ := relay.Prices(p, s)
		chances, _ := relay.Chances(ends)
		if times[0][1] != 4600 || !slices.Equal(laps.Bibs, []int{7, 3}) || laps.Times[1][3] != 4800 || took[1][1] != 2650 || places[1] != 2 || bibs[0] != 7 || len(broken) != 2 || results[0].Bib != 7 || !slices.Equal(best, order) || chances[0] != span(2, 2) {
			t.Fatal(times, laps, took, places, bibs, broken, results, best, chances)
		}
		if sum, holds := provenBy(p, s, first, second); sum != 4650 || !holds {
			t.Fatal(first, second)
		}
		relay.Takes(p, s, order)
		relay.Proves(p, s, legs, skiers)
		for _, list := range slices.Concat(times, laps.Times, took, [][]int{laps.Bibs, places, bibs, best, first, second}) {
			clear(list)
		}
		clear(results)
		clear(chances)
		clear(broken)
		if !reflect.DeepEqual(r, duel()) || !reflect.DeepEqual(p, two()) || !reflect.DeepEqual(s, trio()) || !slices.Equal(order, []int{2, 1}) || !slices.Equal(legs, []int{2250, 2400}) || !slices.Equal(skiers, []int{0, 0, 0}) || !slices.Equal(ends, []api.Span{span(1, 2), span(0, 0)}) {
			t.Fatal("an argument was modified")
		}
	}
}

// R4: lists of one result share no memory with each other.
func TestLists(t *testing.T) {
	r := duel()
	times, _ := relay.Times(r)
	laps, _ := relay.Laps(r)
	for _, lists := range [][][]int{times, laps.Times} {
		kept := slices.Clone(lists[1])
		_ = append(lists[0], 1, 2, 3, 4)
		if !slices.Equal(lists[1], kept) {
			t.Error(lists)
		}
	}
}

// R6: all results are the same at each call.
func TestSameResults(t *testing.T) {
	g := rand.New(rand.NewSource(8))
	for range 300 {
		r, p := someRace(g, 6), someRules(g)
		s := someSquad(g, p, 6, 3)
		all := func() []any {
			outs, e := relay.Out(r)
			results, f := relay.Results(r)
			best, time, h := relay.Best(p, s)
			list := []any{outs, e, results, f, best, time, h}
			legs, skiers, e := relay.Prices(p, s)
			return append(list, legs, skiers, e)
		}
		if first := all(); !reflect.DeepEqual(first, all()) {
			t.Fatal(r, p, s, first)
		}
	}
}
