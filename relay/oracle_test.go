package relay_test

import (
	"math/rand"
	"slices"

	"klister/api"
	"klister/relay"
	"klister/start"
)

// second returns the error of a call with one other result.
func second[T any](_ T, e api.Errno) api.Errno { return e }

// third returns the error of a call with two other results.
func third[T, V any](_ T, _ V, e api.Errno) api.Errno { return e }

// same reports whether two lists of lists are equal.
func same(a, b [][]int) bool { return slices.EqualFunc(a, b, slices.Equal) }

// bout returns the rounds of a text: x is a hit, o a miss.
func bout(text string) []bool {
	var rounds []bool
	for _, c := range text {
		rounds = append(rounds, c == 'x')
	}
	return rounds
}

// bouts returns the bouts of some texts.
func bouts(texts ...string) [][]bool {
	var list [][]bool
	for _, text := range texts {
		list = append(list, bout(text))
	}
	return list
}

// leg returns a leg whose bouts are five hits each.
func leg(skier int, loops ...int) relay.Leg {
	l := relay.Leg{Skier: skier, Loops: loops}
	for range len(loops) - 1 {
		l.Bouts = append(l.Bouts, bout("xxxxx"))
	}
	return l
}

// two returns the rules of the first example.
func two() relay.Rules {
	return relay.Rules{Classes: []int{0, 1}, Each: 1, Laps: 2, Spare: 100, Loop: 250, Unused: 1200}
}

// duel returns the race of the second and the third example.
func duel() relay.Race {
	return relay.Race{Rules: two(), Teams: []relay.Team{
		{Bib: 7, Classes: []int{0, 1}, Legs: []relay.Leg{
			{Skier: 0, Loops: []int{1000, 1100}, Bouts: bouts("xoxxxx")},
			{Skier: 1, Loops: []int{900, 950}, Bouts: bouts("xxxxoooo")},
		}},
		{Bib: 3, Classes: []int{0, 1}, Legs: []relay.Leg{
			{Skier: 0, Loops: []int{1000, 1150}, Bouts: bouts("xxxxx")},
			{Skier: 1, Loops: []int{900, 1500}, Bouts: bouts("oxxxx")},
		}},
	}}
}

// trio returns the squad of the fourth example.
func trio() relay.Squad {
	return relay.Squad{Classes: []int{0, 1, 0}, Times: [][]int{{2300, 9999}, {2600, 2400}, {2250, 9999}}}
}

// shotOf returns what came of rounds, one after the other.
func shotOf(rounds []bool) (relay.Shooting, api.Errno) {
	if len(rounds) < 5 || len(rounds) > 8 {
		return relay.Shooting{}, api.ErrCount
	}
	stand, fired, spares := 5, 0, 0
	for _, hit := range rounds {
		if stand == 0 {
			return relay.Shooting{}, api.ErrWrong
		}
		if hit {
			stand--
		}
		fired++
		if fired > 5 {
			spares++
		}
	}
	unused := 0
	for ; stand > 0 && fired < 8; fired++ {
		unused++
	}
	return relay.Shooting{Spares: spares, Loops: stand, Unused: unused}, api.OK
}

// timeOf returns the time of a team after a lap of a leg, put together anew.
func timeOf(r relay.Race, team, leg, lap int) int {
	time := r.Start
	for k, l := range r.Teams[team].Legs {
		for i, loop := range l.Loops {
			if k < leg || k == leg && i <= lap {
				time += loop
			}
		}
		for i, rounds := range l.Bouts {
			// the bout i is ahead of the lap i + 1
			if k < leg || k == leg && i+1 <= lap {
				came, _ := shotOf(rounds)
				time += came.Spares*r.Rules.Spare + came.Loops*r.Rules.Loop
			}
		}
	}
	return time
}

// lapsOf returns a race with its laps.
func lapsOf(r relay.Race) start.Race {
	s := start.Race{Laps: r.Rules.Laps * len(r.Rules.Classes)}
	for team, t := range r.Teams {
		var times []int
		for k, l := range t.Legs {
			for lap := range l.Loops {
				times = append(times, timeOf(r, team, k, lap))
			}
		}
		s.Bibs = append(s.Bibs, t.Bib)
		s.Times = append(s.Times, times)
	}
	return s
}

// legsOf returns for each team its times after the legs that it has finished,
// and how long it took for them.
func legsOf(r relay.Race) (times, took [][]int) {
	for team, t := range r.Teams {
		var ends, all []int
		before := r.Start
		for k, l := range t.Legs {
			if len(l.Loops) < r.Rules.Laps {
				break
			}
			end := timeOf(r, team, k, r.Rules.Laps-1)
			ends, all = append(ends, end), append(all, end-before)
			before = end
		}
		times, took = append(times, ends), append(took, all)
	}
	return times, took
}

// placesOf returns the places after a leg, from the times after all legs.
func placesOf(times [][]int, leg int) []int {
	var places []int
	for _, own := range times {
		place := 0
		if leg < len(own) {
			place = 1
			for _, other := range times {
				if leg < len(other) && other[leg] < own[leg] {
					place++
				}
			}
		}
		places = append(places, place)
	}
	return places
}

// fastestOf returns who took least for a leg, bib by bib, and how long.
func fastestOf(r relay.Race, took [][]int, leg int) ([]int, int) {
	least := -1
	for _, own := range took {
		if leg < len(own) && (least < 0 || own[leg] < least) {
			least = own[leg]
		}
	}
	var bibs []int
	for bib := range start.MaxBib + 1 {
		for team, own := range took {
			if r.Teams[team].Bib == bib && leg < len(own) && own[leg] == least {
				bibs = append(bibs, bib)
			}
		}
	}
	return bibs, max(least, 0)
}

// breaksOf returns the legs that break the rules.
func breaksOf(r relay.Race) [][]int {
	var all [][]int
	for _, t := range r.Teams {
		var broken []int
		for k, l := range t.Legs {
			before := 0
			for _, other := range t.Legs[:k] {
				if other.Skier == l.Skier {
					before++
				}
			}
			if t.Classes[l.Skier] != r.Rules.Classes[k] || before >= r.Rules.Each {
				broken = append(broken, k)
			}
		}
		all = append(all, broken)
	}
	return all
}

// resultsOf returns the results: again and again the team that comes next.
func resultsOf(r relay.Race) []relay.Result {
	laps := lapsOf(r)
	counted, _ := start.Counted(laps)
	final := func(team int) int {
		time := timeOf(r, team, len(r.Rules.Classes), 0)
		for _, l := range r.Teams[team].Legs {
			for _, rounds := range l.Bouts {
				came, _ := shotOf(rounds)
				time += came.Unused * r.Rules.Unused
			}
		}
		return time
	}
	finishes := func(team int) bool { return counted[team] == laps.Laps }
	ahead := func(a, b int) bool {
		switch {
		case finishes(a) != finishes(b):
			return finishes(a)
		case finishes(a) && final(a) != final(b):
			return final(a) < final(b)
		case !finishes(a) && counted[a] != counted[b]:
			return counted[a] > counted[b]
		}
		return r.Teams[a].Bib < r.Teams[b].Bib
	}
	results := make([]relay.Result, len(r.Teams))
	for a, t := range r.Teams {
		at, place := 0, 1
		for b := range r.Teams {
			if ahead(b, a) && a != b {
				at++
			}
			if finishes(b) && finishes(a) && final(b) < final(a) {
				place++
			}
		}
		results[at] = relay.Result{Bib: t.Bib}
		if finishes(a) {
			results[at].Place, results[at].Time = place, final(a)
		}
	}
	return results
}

// ordersOf returns all orders of a squad with how long they take, in
// lexicographic order: all lists of skiers that are right.
func ordersOf(p relay.Rules, s relay.Squad) (orders [][]int, times []int) {
	all := 1
	for range p.Classes {
		all *= len(s.Classes)
	}
	for n := range all {
		order := make([]int, len(p.Classes))
		often := map[int]int{}
		right, time := true, 0
		for k := len(order) - 1; k >= 0; k-- {
			skier := n % len(s.Classes)
			n /= len(s.Classes)
			order[k] = skier
			often[skier]++
			right = right && s.Classes[skier] == p.Classes[k] && often[skier] <= p.Each
			time += s.Times[skier][k]
		}
		if right {
			orders, times = append(orders, order), append(times, time)
		}
	}
	return orders, times
}

// provenBy returns what prices prove, and whether they hold.
func provenBy(p relay.Rules, s relay.Squad, legs, skiers []int) (int, bool) {
	total, holds := 0, true
	for k, price := range legs {
		total += price
		for skier, own := range skiers {
			if s.Classes[skier] == p.Classes[k] && price-own > s.Times[skier][k] {
				holds = false
			}
		}
	}
	for _, own := range skiers {
		holds = holds && own >= 0
		total -= p.Each * own
	}
	return total, holds
}

// chancesOf returns the places over all times at which all teams can end.
func chancesOf(ends []api.Span) []api.Span {
	chances := make([]api.Span, len(ends))
	for k := range chances {
		chances[k] = api.Span{Lo: len(ends) + 1, Hi: 0}
	}
	var times []int
	var end func()
	end = func() {
		if k := len(times); k < len(ends) {
			for time := ends[k].Lo; time <= ends[k].Hi; time++ {
				times = append(times, time)
				end()
				times = times[:k]
			}
			return
		}
		for k, own := range times {
			place := 1
			for _, other := range times {
				if other < own {
					place++
				}
			}
			chances[k].Lo, chances[k].Hi = min(chances[k].Lo, place), max(chances[k].Hi, place)
		}
	}
	end()
	return chances
}

// someBout returns a bout without an error.
func someBout(g *rand.Rand) []bool {
	var rounds []bool
	stand, last, hard := 5, 5+g.Intn(4), 1+g.Intn(4)
	for len(rounds) < last && stand > 0 {
		hit := g.Intn(4) < hard
		if hit {
			stand--
		}
		rounds = append(rounds, hit)
	}
	return rounds
}

// someRules returns rules with small numbers.
func someRules(g *rand.Rand) relay.Rules {
	p := relay.Rules{Each: 1 + g.Intn(3), Laps: 1 + g.Intn(4), Spare: g.Intn(4), Loop: g.Intn(6), Unused: g.Intn(3)}
	for range 1 + g.Intn(4) {
		p.Classes = append(p.Classes, g.Intn(2))
	}
	return p
}

// someLeg returns a leg of so many laps.
func someLeg(g *rand.Rand, skiers, laps int) relay.Leg {
	l := relay.Leg{Skier: g.Intn(skiers)}
	for lap := range laps {
		l.Loops = append(l.Loops, 1+g.Intn(6)+g.Intn(20))
		if lap > 0 {
			l.Bouts = append(l.Bouts, someBout(g))
		}
	}
	return l
}

// someRace returns a race of at most so many teams, many of which finish.
func someRace(g *rand.Rand, most int) relay.Race {
	r := relay.Race{Rules: someRules(g), Start: g.Intn(3) * 10}
	bibs := g.Perm(20)
	for k := range 1 + g.Intn(most) {
		t := relay.Team{Bib: 1 + bibs[k]}
		for range 1 + g.Intn(4) {
			t.Classes = append(t.Classes, g.Intn(2))
		}
		legs, last := len(r.Rules.Classes), r.Rules.Laps
		if g.Intn(4) == 0 {
			legs, last = g.Intn(legs+1), g.Intn(last+1)
		}
		for k := range legs {
			laps := r.Rules.Laps
			if k == legs-1 {
				laps = last
			}
			t.Legs = append(t.Legs, someLeg(g, len(t.Classes), laps))
		}
		r.Teams = append(r.Teams, t)
	}
	return r
}

// someSquad returns a squad of at most so many skiers, with times up to a greatest one.
func someSquad(g *rand.Rand, p relay.Rules, most, greatest int) relay.Squad {
	var s relay.Squad
	for range 1 + g.Intn(most) {
		var times []int
		for range p.Classes {
			times = append(times, g.Intn(greatest+1))
		}
		s.Classes, s.Times = append(s.Classes, g.Intn(2)), append(s.Times, times)
	}
	return s
}
