package relay

import (
	"klister/api"
	"klister/start"
)

// work is a race at work, with the times of each team after its laps.
type work struct {
	Race
	times [][]int
}

// begin returns a race at work, or the error of the race.
func begin(r Race) (work, api.Errno) {
	if e := Check(r); e != api.OK {
		return work{}, e
	}
	w := work{Race: r, times: make([][]int, len(r.Teams))}
	for team, leg := range r.legs() {
		w.ski(team, leg)
	}
	return w, api.OK
}

// ski adds the times of a team after the laps of a leg.
func (w work) ski(team int, leg Leg) {
	now := w.Start
	if done := w.times[team]; len(done) > 0 {
		now = done[len(done)-1]
	}
	for lap := range len(leg.Loops) {
		if lap > 0 {
			now += w.Rules.cost(leg.Bouts[lap-1])
		}
		now += leg.Loops[lap]
		w.times[team] = append(w.times[team], now)
	}
}

// laps returns how many laps the whole race has.
func (w work) laps() int { return len(w.Rules.Classes) * w.Rules.Laps }

// skied returns the race with its laps.
func (w work) skied() start.Race {
	return start.Race{Laps: w.laps(), Bibs: w.bibs(), Times: w.times}
}

// after returns the time of a team after a leg, and whether it has finished the leg.
func (w work) after(team, leg int) (int, bool) {
	laps := (leg + 1) * w.Rules.Laps
	if laps > len(w.times[team]) {
		return 0, false
	}
	return w.times[team][laps-1], true
}

// took returns how long a team took for a leg, and whether it has finished the leg.
func (w work) took(team, leg int) (int, bool) {
	end, finished := w.after(team, leg)
	if !finished {
		return 0, false
	}
	if leg == 0 {
		return end - w.Start, true
	}
	from, _ := w.after(team, leg-1)
	return end - from, true
}

// finished returns a number of each leg that a team has finished, for all teams.
func (w work) finished(number func(team, leg int) (int, bool)) [][]int {
	all := make([][]int, len(w.Teams))
	for team := range all {
		for leg := range w.Rules.Classes {
			if n, is := number(team, leg); is {
				all[team] = append(all[team], n)
			}
		}
	}
	return all
}

// Times returns the times after finished legs.
func Times(r Race) ([][]int, api.Errno) {
	w, e := begin(r)
	if e != api.OK {
		return nil, e
	}
	return w.finished(w.after), api.OK
}

// Laps returns the race with its laps.
func Laps(r Race) (start.Race, api.Errno) {
	w, e := begin(r)
	if e != api.OK {
		return start.Race{}, e
	}
	return w.skied(), api.OK
}

// Legs returns how long finished legs took.
func Legs(r Race) ([][]int, api.Errno) {
	w, e := begin(r)
	if e != api.OK {
		return nil, e
	}
	return w.finished(w.took), api.OK
}
