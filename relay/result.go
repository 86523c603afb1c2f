package relay

import (
	"cmp"
	"slices"

	"klister/api"
	"klister/start"
)

// out returns the teams that are taken out. A race without an error is one of
// package start, too: its times are increasing, and none of them is too late.
func (w work) out() []start.Out {
	outs, _ := start.Lapped(w.skied())
	return outs
}

// Out returns the teams that are taken out.
func Out(r Race) ([]start.Out, api.Errno) {
	w, e := begin(r)
	if e != api.OK {
		return nil, e
	}
	return w.out(), api.OK
}

// Breaks returns the legs that break the rules.
func Breaks(r Race) ([][]int, api.Errno) {
	if e := Check(r); e != api.OK {
		return nil, e
	}
	return mapped(r.Teams, r.Rules.broken), api.OK
}

// broken returns the legs of a team that break the rules.
func (p Rules) broken(t Team) []int {
	c := crew{rules: p, classes: t.Classes}
	var broken []int
	for k, leg := range t.Legs {
		if !c.may(leg.Skier, k) {
			broken = append(broken, k)
		}
		c.legs[leg.Skier]++
	}
	return broken
}

// score is a result that has no place yet, and how many laps of the team count.
type score struct {
	Result
	laps int
}

// before orders scores as results are: all laps of those who finish count, and
// fewer laps of the others, since nobody is lapped who has begun the last one.
func (s score) before(other score) int {
	return cmp.Or(cmp.Compare(other.laps, s.laps), cmp.Compare(s.Time, other.Time), cmp.Compare(s.Bib, other.Bib))
}

// scores returns the scores of all teams, in the order of the results.
func (w work) scores() []score {
	gone := map[int]start.Out{}
	for _, o := range w.out() {
		gone[o.Bib] = o
	}
	var scores []score
	for team, t := range w.Teams {
		s := score{Result: Result{Bib: t.Bib}, laps: len(w.times[team])}
		if o, is := gone[t.Bib]; is {
			s.laps = o.Done
		}
		if s.laps == w.laps() {
			s.Time = w.final(team)
		}
		scores = append(scores, s)
	}
	slices.SortFunc(scores, score.before)
	return scores
}

// final returns the final time of a team that has finished all laps.
func (w work) final(team int) int {
	time := slices.Max(w.times[team])
	for _, leg := range w.Teams[team].Legs {
		time += sum(mapped(leg.Bouts, w.Rules.fine)...)
	}
	return time
}

// Results returns the results of all teams.
func Results(r Race) ([]Result, api.Errno) {
	w, e := begin(r)
	if e != api.OK {
		return nil, e
	}
	var results []Result
	var times []int
	for _, s := range w.scores() {
		if s.laps == w.laps() {
			times = append(times, s.Time)
			s.Place = place(times, s.Time)
		}
		results = append(results, s.Result)
	}
	return results, api.OK
}
