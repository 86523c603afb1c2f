package relay_test

import (
	"math"
	"slices"
	"testing"

	"klister/api"
	"klister/relay"
	"klister/start"
)

// P8.1: rules at the ends of what is allowed.
func TestCheckRulesAllows(t *testing.T) {
	for i, p := range []relay.Rules{
		two(),
		{Classes: []int{0}, Each: 1, Laps: 1},
		{Classes: []int{3, 3, 3, 3}, Each: 4, Laps: 5, Spare: 600, Loop: 600, Unused: 6000},
		{Classes: []int{0, 1, 2, 3}, Each: 2, Laps: 3, Spare: 600},
	} {
		if e := relay.CheckRules(p); e != api.OK {
			t.Error(i, e)
		}
	}
}

// rulesErrors returns the errors of all functions of rules, the other
// arguments of which are refused with errors that come later.
func rulesErrors(p relay.Rules) []api.Errno {
	return append(raceErrors(relay.Race{Rules: p}), squadErrors(p, relay.Squad{})...)
}

// raceErrors returns the errors of all functions of a race.
func raceErrors(r relay.Race) []api.Errno {
	return []api.Errno{
		relay.Check(r),
		second(relay.Times(r)),
		second(relay.Laps(r)),
		second(relay.Legs(r)),
		second(relay.Places(r, -1)),
		third(relay.Fastest(r, 99)),
		second(relay.Out(r)),
		second(relay.Breaks(r)),
		second(relay.Results(r)),
	}
}

// squadErrors returns the errors of all functions of a squad.
func squadErrors(p relay.Rules, s relay.Squad) []api.Errno {
	return []api.Errno{
		relay.CheckSquad(p, s),
		second(relay.Takes(p, s, []int{-1, 0, 0, 0, 0})),
		third(relay.Best(p, s)),
		third(relay.Prices(p, s)),
		second(relay.Proves(p, s, nil, []int{math.MinInt})),
		second(relay.Loss(p, s, -1)),
	}
}

// P8.1: what is not allowed in rules, in all functions, and which error is first.
func TestRulesErrors(t *testing.T) {
	for i, x := range []struct {
		change func(p *relay.Rules)
		e      api.Errno
	}{
		{func(p *relay.Rules) { p.Classes = nil }, api.ErrCount},
		{func(p *relay.Rules) { p.Classes = []int{}; p.Each = 0 }, api.ErrCount},
		{func(p *relay.Rules) { p.Classes = make([]int, 5); p.Loop = -1 }, api.ErrCount},
		{func(p *relay.Rules) { p.Classes = slices.Repeat([]int{-1}, 5) }, api.ErrCount},
		{func(p *relay.Rules) { p.Classes[0] = -1 }, api.ErrRange},
		{func(p *relay.Rules) { p.Classes[1] = 4 }, api.ErrRange},
		{func(p *relay.Rules) { p.Classes[1] = math.MaxInt }, api.ErrRange},
		{func(p *relay.Rules) { p.Each = 0 }, api.ErrRange},
		{func(p *relay.Rules) { p.Each = 5 }, api.ErrRange},
		{func(p *relay.Rules) { p.Each = math.MinInt }, api.ErrRange},
		{func(p *relay.Rules) { p.Laps = 0 }, api.ErrRange},
		{func(p *relay.Rules) { p.Laps = 6 }, api.ErrRange},
		{func(p *relay.Rules) { p.Laps = math.MaxInt }, api.ErrRange},
		{func(p *relay.Rules) { p.Spare = -1 }, api.ErrRange},
		{func(p *relay.Rules) { p.Spare = 601 }, api.ErrRange},
		{func(p *relay.Rules) { p.Loop = -1 }, api.ErrRange},
		{func(p *relay.Rules) { p.Loop = 601 }, api.ErrRange},
		{func(p *relay.Rules) { p.Unused = -1 }, api.ErrRange},
		{func(p *relay.Rules) { p.Unused = 6001 }, api.ErrRange},
	} {
		p := two()
		x.change(&p)
		if e := relay.CheckRules(p); e != x.e {
			t.Error(i, e)
		}
		for k, e := range rulesErrors(p) {
			if e != x.e {
				t.Error(i, k, e)
			}
		}
	}
}

// P8.1: the bouts of the first example, and others at the ends of what is allowed.
func TestShot(t *testing.T) {
	for _, x := range []struct {
		rounds string
		want   relay.Shooting
		e      api.Errno
	}{
		{"xoxxxx", relay.Shooting{Spares: 1}, api.OK},
		{"oooxxxxx", relay.Shooting{Spares: 3}, api.OK},
		{"xxxxoooo", relay.Shooting{Spares: 3, Loops: 1}, api.OK},
		{"oxxxx", relay.Shooting{Loops: 1, Unused: 3}, api.OK},
		{"xxxxx", relay.Shooting{}, api.OK},
		{"ooooo", relay.Shooting{Loops: 5, Unused: 3}, api.OK},
		{"oooooo", relay.Shooting{Spares: 1, Loops: 5, Unused: 2}, api.OK},
		{"oooooxx", relay.Shooting{Spares: 2, Loops: 3, Unused: 1}, api.OK},
		{"oooooooo", relay.Shooting{Spares: 3, Loops: 5}, api.OK},
		{"ooxxxxx", relay.Shooting{Spares: 2}, api.OK},
		{"", relay.Shooting{}, api.ErrCount},
		{"xxxx", relay.Shooting{}, api.ErrCount},
		{"oooooxxxx", relay.Shooting{}, api.ErrCount},
		{"xxxxxxxxx", relay.Shooting{}, api.ErrCount},
		{"xxxxxo", relay.Shooting{}, api.ErrWrong},
		{"xxxxxx", relay.Shooting{}, api.ErrWrong},
		{"xxxxxooo", relay.Shooting{}, api.ErrWrong},
		{"oxxxxxo", relay.Shooting{}, api.ErrWrong},
		{"ooxxxxxx", relay.Shooting{}, api.ErrWrong},
	} {
		if got, e := relay.Shot(bout(x.rounds)); got != x.want || e != x.e {
			t.Error(x.rounds, got, e)
		}
	}
}

// allRounds returns all lists of so many rounds.
func allRounds(size int) [][]bool {
	var all [][]bool
	for set := range 1 << size {
		rounds := make([]bool, size)
		for k := range rounds {
			rounds[k] = set>>k&1 == 1
		}
		all = append(all, rounds)
	}
	return all
}

// P8.1: all bouts of up to ten rounds.
func TestAllShots(t *testing.T) {
	for size := range 11 {
		for _, rounds := range allRounds(size) {
			got, e := relay.Shot(rounds)
			if want, f := shotOf(rounds); got != want || e != f {
				t.Fatal(rounds, got, want, e, f)
			}
		}
	}
}

// P8.8: a round that falls a target in place of one that does not never makes
// a time greater, neither on the course nor at the end.
func TestHitsAreNoLoss(t *testing.T) {
	ends := func(rounds []bool) [2]int {
		r := duel()
		r.Teams = r.Teams[:1]
		r.Teams[0].Legs[1].Bouts[0] = rounds
		times, e := relay.Times(r)
		results, f := relay.Results(r)
		if e != api.OK || f != api.OK {
			t.Fatal(rounds, e, f)
		}
		return [2]int{times[0][1], results[0].Time}
	}
	better := 0
	for size := 5; size <= 8; size++ {
		for _, rounds := range allRounds(size) {
			if second(relay.Shot(rounds)) != api.OK {
				continue
			}
			worse := ends(rounds)
			for k, hit := range rounds {
				other := slices.Clone(rounds)
				other[k] = true
				if hit || second(relay.Shot(other)) != api.OK {
					continue
				}
				if less := ends(other); less[0] > worse[0] || less[1] > worse[1] {
					t.Fatal(rounds, other, worse, less)
				}
				better++
			}
		}
	}
	if better == 0 {
		t.Error("no bout was better")
	}
}

// P8.2: races at the ends of what is allowed.
func TestCheckAllows(t *testing.T) {
	far := relay.Rules{Classes: []int{0, 1, 2, 3}, Each: 1, Laps: 5, Spare: 600, Loop: 600, Unused: 6000}
	late := leg(7, 9000, 9000, 9000, 9000, 9000)
	late.Bouts = bouts("oooooooo", "oooooooo", "oooooooo", "oooooooo")
	slow := relay.Team{Bib: 999, Classes: make([]int, 8), Legs: []relay.Leg{late, late, late, late}}
	many := relay.Race{Rules: two()}
	for k := range 12 {
		many.Teams = append(many.Teams, relay.Team{Bib: k + 1, Classes: []int{3}})
	}
	begun := duel()
	begun.Teams[1].Legs[1] = relay.Leg{Skier: 1, Loops: []int{}, Bouts: [][]bool{}}
	for i, r := range []relay.Race{
		duel(),
		begun,
		many,
		{Rules: far, Start: 36000, Teams: []relay.Team{slow}},
		{Rules: relay.Rules{Classes: []int{0}, Each: 1, Laps: 1}, Teams: []relay.Team{{Bib: 1, Classes: []int{3}, Legs: []relay.Leg{leg(0, 1)}}}},
		{Rules: two(), Teams: []relay.Team{{Bib: 1, Classes: []int{0, 1}, Legs: []relay.Leg{leg(0, 1)}}}},
	} {
		if e := relay.Check(r); e != api.OK {
			t.Error(i, e)
		}
	}
}

// P8.2: what is not allowed in a race, in all functions, and which error is first.
func TestRaceErrors(t *testing.T) {
	long := func(legs int) []relay.Leg { return slices.Repeat([]relay.Leg{leg(0, 5, 5)}, legs) }
	for i, x := range []struct {
		change func(r *relay.Race)
		e      api.Errno
	}{
		{func(r *relay.Race) { r.Rules.Laps = 0; r.Teams = nil }, api.ErrRange},
		{func(r *relay.Race) { r.Teams = nil }, api.ErrCount},
		{func(r *relay.Race) { r.Teams = []relay.Team{}; r.Start = -1 }, api.ErrCount},
		{func(r *relay.Race) { r.Teams = make([]relay.Team, 13) }, api.ErrCount},
		{func(r *relay.Race) { r.Teams = slices.Repeat(r.Teams[:1], 13) }, api.ErrCount},
		{func(r *relay.Race) { r.Teams[1].Classes = nil }, api.ErrCount},
		{func(r *relay.Race) { r.Teams[1].Classes = make([]int, 9) }, api.ErrCount},
		{func(r *relay.Race) { r.Teams[1].Legs = long(3) }, api.ErrCount},
		{func(r *relay.Race) { r.Teams[0].Legs[0] = leg(0, 5); r.Start = -1 }, api.ErrCount},
		{func(r *relay.Race) { r.Teams[0].Legs[0] = leg(0) }, api.ErrCount},
		{func(r *relay.Race) { r.Teams[0].Legs[0] = leg(0, 5, 5, 5) }, api.ErrCount},
		{func(r *relay.Race) { r.Teams[1].Legs[1] = leg(1, 5, 5, 5); r.Teams[0].Bib = 0 }, api.ErrCount},
		{func(r *relay.Race) { r.Teams[1].Legs[1].Bouts = nil }, api.ErrCount},
		{func(r *relay.Race) { r.Teams[1].Legs[1].Bouts = bouts("xxxxx", "xxxxx") }, api.ErrCount},
		{func(r *relay.Race) { r.Teams[1].Legs[1] = relay.Leg{Bouts: bouts("xxxxx")} }, api.ErrCount},
		{func(r *relay.Race) { r.Teams[1].Legs[1] = relay.Leg{Loops: []int{5}, Bouts: bouts("xxxxx")} }, api.ErrCount},
		{func(r *relay.Race) { r.Start = -1 }, api.ErrRange},
		{func(r *relay.Race) { r.Start = 36001; r.Teams[0].Legs[0].Skier = 2 }, api.ErrRange},
		{func(r *relay.Race) { r.Start = math.MaxInt }, api.ErrRange},
		{func(r *relay.Race) { r.Teams[1].Bib = 0 }, api.ErrRange},
		{func(r *relay.Race) { r.Teams[1].Bib = 1000 }, api.ErrRange},
		{func(r *relay.Race) { r.Teams[0].Bib, r.Teams[1].Bib = math.MinInt, math.MinInt }, api.ErrRange},
		{func(r *relay.Race) { r.Teams[1].Classes[1] = -1 }, api.ErrRange},
		{func(r *relay.Race) { r.Teams[1].Classes[1] = 4 }, api.ErrRange},
		{func(r *relay.Race) { r.Teams[1].Legs[1].Loops[1] = 0; r.Teams[0].Legs[0].Skier = -1 }, api.ErrRange},
		{func(r *relay.Race) { r.Teams[1].Legs[1].Loops[1] = 9001 }, api.ErrRange},
		{func(r *relay.Race) { r.Teams[1].Legs[0].Loops[0] = math.MaxInt }, api.ErrRange},
		{func(r *relay.Race) { r.Teams[1].Legs[1].Skier = -1 }, api.ErrUnknown},
		{func(r *relay.Race) { r.Teams[1].Legs[1].Skier = 2; r.Teams[0].Legs[0].Bouts[0] = nil }, api.ErrUnknown},
		{func(r *relay.Race) { r.Teams[1].Legs[1] = leg(math.MaxInt) }, api.ErrUnknown},
		{func(r *relay.Race) { r.Teams[0].Classes = []int{0} }, api.ErrUnknown},
		{func(r *relay.Race) { r.Teams[1].Legs[1].Bouts[0] = bout("xxxx"); r.Teams[0].Bib = 3 }, api.ErrCount},
		{func(r *relay.Race) { r.Teams[1].Legs[1].Bouts[0] = bout("oxxxxxx"); r.Teams[0].Bib = 3 }, api.ErrWrong},
		{func(r *relay.Race) { r.Teams[0].Legs[1].Bouts[0] = nil; r.Teams[1].Legs[0].Bouts[0] = bout("xxxxxx") }, api.ErrCount},
		{func(r *relay.Race) { r.Teams[0].Legs[1].Bouts[0] = bout("xxxxxx"); r.Teams[1].Legs[0].Bouts[0] = nil }, api.ErrWrong},
		{func(r *relay.Race) { r.Teams[0].Legs[0].Bouts[0] = bout("xxxxxx"); r.Teams[0].Legs[1].Bouts[0] = nil }, api.ErrWrong},
		{func(r *relay.Race) { r.Teams[0].Bib = 3 }, api.ErrTwice},
	} {
		r := duel()
		x.change(&r)
		for k, e := range raceErrors(r) {
			if e != x.e {
				t.Error(i, k, e)
			}
		}
	}
}

// P8.2: the bouts of one leg are gone through in their order.
func TestFirstBout(t *testing.T) {
	r := relay.Race{Rules: relay.Rules{Classes: []int{0}, Each: 1, Laps: 4}, Teams: []relay.Team{{Bib: 1, Classes: []int{0}, Legs: []relay.Leg{leg(0, 5, 5, 5, 5)}}}}
	r.Teams[0].Legs[0].Bouts = bouts("xxxxx", "xxxxxo", "xxxx")
	if e := relay.Check(r); e != api.ErrWrong {
		t.Error(e)
	}
	slices.Reverse(r.Teams[0].Legs[0].Bouts)
	if e := relay.Check(r); e != api.ErrCount {
		t.Error(e)
	}
}

// P8.4: which leg there is not, behind the errors of the race and ahead of ErrNone.
func TestLegErrors(t *testing.T) {
	r := duel()
	r.Teams[0].Legs, r.Teams[1].Legs = nil, nil
	for _, k := range []int{-1, 2, math.MinInt, math.MaxInt, start.MaxLaps} {
		if e, f := second(relay.Places(r, k)), third(relay.Fastest(r, k)); e != api.ErrUnknown || f != api.ErrUnknown {
			t.Error(k, e, f)
		}
	}
	for k := range 2 {
		places, e := relay.Places(r, k)
		bibs, least, f := relay.Fastest(r, k)
		if !slices.Equal(places, []int{0, 0}) || e != api.OK || len(bibs) > 0 || least != 0 || f != api.ErrNone {
			t.Error(k, places, e, bibs, least, f)
		}
	}
}
