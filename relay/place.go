package relay

import (
	"slices"

	"klister/api"
)

// beginLeg returns a race at work, or the error of the race or of the number of a leg.
func beginLeg(r Race, leg int) (work, api.Errno) {
	w, e := begin(r)
	if e != api.OK {
		return work{}, e
	}
	if !within(leg, 0, len(r.Rules.Classes)-1) {
		return work{}, api.ErrUnknown
	}
	return w, api.OK
}

// place returns the place of a time among several ones.
func place(times []int, time int) int {
	n := 1
	for _, other := range times {
		if other < time {
			n++
		}
	}
	return n
}

// reached returns a number of a leg, for those teams that have finished it.
func (w work) reached(leg int, number func(team, leg int) (int, bool)) []int {
	var list []int
	for team := range w.Teams {
		if n, is := number(team, leg); is {
			list = append(list, n)
		}
	}
	return list
}

// Places returns the places at the exchange after a leg.
func Places(r Race, leg int) ([]int, api.Errno) {
	w, e := beginLeg(r, leg)
	if e != api.OK {
		return nil, e
	}
	times := w.reached(leg, w.after)
	places := make([]int, len(w.Teams))
	for team := range places {
		if time, is := w.after(team, leg); is {
			places[team] = place(times, time)
		}
	}
	return places, api.OK
}

// Fastest returns the teams that took the least time for a leg, and this time.
func Fastest(r Race, leg int) ([]int, int, api.Errno) {
	w, e := beginLeg(r, leg)
	if e != api.OK {
		return nil, 0, e
	}
	times := w.reached(leg, w.took)
	if len(times) == 0 {
		return nil, 0, api.ErrNone
	}
	least := slices.Min(times)
	var bibs []int
	for team, t := range w.Teams {
		if time, is := w.took(team, leg); is && time == least {
			bibs = append(bibs, t.Bib)
		}
	}
	slices.Sort(bibs)
	return bibs, least, api.OK
}
