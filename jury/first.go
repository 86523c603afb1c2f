package jury

import "klister/api"

// lastPlace is the place of those who are out, behind all others.
const lastPlace = MaxSkiers + 1

// The ends of what a skier can have.
const (
	best = iota
	worst
)

// reach returns the best and the worst place of each skier in all outcomes.
func (w work) reach() map[int][2]int {
	reach := map[int][2]int{}
	for _, lines := range w.outcomes() {
		for _, l := range lines {
			place := l.Place
			if place == None {
				place = lastPlace
			}
			ends, known := reach[l.Bib]
			if !known {
				ends = [2]int{place, place}
			}
			reach[l.Bib] = [2]int{best: min(ends[best], place), worst: max(ends[worst], place)}
		}
	}
	return reach
}

// among returns the skiers whose best or worst place is one of the first.
func among(r Record, first, end int) ([]int, api.Errno) {
	w, e := begin(r)
	switch {
	case e != api.OK:
		return nil, e
	case first < 1:
		return nil, api.ErrRange
	case w.large():
		return nil, api.ErrLarge
	}
	reach := w.reach()
	return kept(w.bibs(), func(bib int) bool { return reach[bib][end] <= min(first, MaxSkiers) }), api.OK
}

// Can returns the skiers who have one of the first places in some outcome.
func Can(r Record, first int) ([]int, api.Errno) { return among(r, first, best) }

// Must returns the skiers who have one of the first places in each outcome.
func Must(r Record, first int) ([]int, api.Errno) { return among(r, first, worst) }

// Settled returns the lines that are the same in each outcome.
func Settled(r Record) ([]Line, api.Errno) {
	w, e := begin(r)
	switch {
	case e != api.OK:
		return nil, e
	case w.large():
		return nil, api.ErrLarge
	}
	reach := w.reach()
	return kept(w.result(), func(l Line) bool { return reach[l.Bib][best] == reach[l.Bib][worst] }), api.OK
}
