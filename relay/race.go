package relay

import (
	"iter"

	"klister/api"
	"klister/start"
)

// legs yields the legs of all teams, each one with the number of its team.
func (r Race) legs() iter.Seq2[int, Leg] {
	return func(yield func(int, Leg) bool) {
		for team, t := range r.Teams {
			for _, leg := range t.Legs {
				if !yield(team, leg) {
					return
				}
			}
		}
	}
}

// Check returns the error of a race.
func Check(r Race) api.Errno {
	if e := CheckRules(r.Rules); e != api.OK {
		return e
	}
	switch {
	case !within(len(r.Teams), 1, MaxTeams) || !every(r.Teams, r.Rules.counted):
		return api.ErrCount
	case !within(r.Start, 0, MaxStart) || !every(r.Teams, Team.limited):
		return api.ErrRange
	}
	for team, leg := range r.legs() {
		if !within(leg.Skier, 0, len(r.Teams[team].Classes)-1) {
			return api.ErrUnknown
		}
	}
	for _, leg := range r.legs() {
		for _, rounds := range leg.Bouts {
			if _, e := Shot(rounds); e != api.OK {
				return e
			}
		}
	}
	if twice(r.bibs()) {
		return api.ErrTwice
	}
	return api.OK
}

// bibs returns the bibs of all teams.
func (r Race) bibs() []int {
	return mapped(r.Teams, func(t Team) int { return t.Bib })
}

// counted reports whether a team has as many skiers, legs, laps and bouts as it may have.
func (p Rules) counted(t Team) bool {
	if !within(len(t.Classes), 1, MaxSkiers) || len(t.Legs) > len(p.Classes) {
		return false
	}
	for k, leg := range t.Legs {
		least := p.Laps
		if k == len(t.Legs)-1 {
			least = 0
		}
		laps := len(leg.Loops)
		if !within(laps, least, p.Laps) || len(leg.Bouts) != max(laps-1, 0) {
			return false
		}
	}
	return true
}

// limited reports whether the numbers of a team are within their limits.
func (t Team) limited() bool {
	laps := func(leg Leg) bool { return allWithin(leg.Loops, 1, MaxLap) }
	return within(t.Bib, 1, start.MaxBib) && allWithin(t.Classes, 0, MaxClass) && every(t.Legs, laps)
}
