package wind

import (
	"slices"

	"klister/api"
)

// gale is a range at work with winds.
type gale struct {
	*work
	winds []api.Span
}

// beginGale begins the work on a range with winds, if both are valid.
func beginGale(r Range, winds []api.Span) (gale, api.Errno) {
	w, e := begin(r)
	if e != api.OK {
		return gale{}, e
	}
	if len(winds) != Shots {
		return gale{}, api.ErrCount
	}
	if !every(winds, func(s api.Span) bool { return inside(s, MaxDrift) }) {
		return gale{}, api.ErrRange
	}
	return gale{w, winds}, api.OK
}

// Worst returns a worst case of a click, and its misses to be expected.
func Worst(r Range, winds []api.Span, click int) ([]int, api.Ratio, api.Errno) {
	g, e := beginGale(r, winds)
	if e != api.OK {
		return nil, api.Ratio{}, e
	}
	if !g.hasClick(click) {
		return nil, api.Ratio{}, api.ErrRange
	}
	worst := g.worst(click)
	return slices.Clone(worst[:]), ratio(g.missed(worst[:], click), g.sum), api.OK
}

// Robust returns the click whose worst case has the fewest misses to be expected, and these.
func Robust(r Range, winds []api.Span) (int, api.Ratio, api.Errno) {
	g, e := beginGale(r, winds)
	if e != api.OK {
		return 0, api.Ratio{}, e
	}
	click, n := contest[int]{g.clicks(0), func(click int) int {
		worst := g.worst(click)
		return g.missed(worst[:], click)
	}}.won()
	return click, ratio(n, g.sum), api.OK
}

// Against returns witnesses that show that no click is better than the robust one.
func Against(r Range, winds []api.Span) ([][]int, api.Errno) {
	g, e := beginGale(r, winds)
	if e != api.OK {
		return nil, e
	}
	var witnesses [][]int
	for click := -g.Clicks; click <= g.Clicks; click++ {
		worst := g.worst(click)
		witnesses = append(witnesses, slices.Clone(worst[:]))
	}
	return witnesses, api.OK
}

// Shows returns what witnesses show.
func Shows(r Range, winds []api.Span, witnesses [][]int) (api.Ratio, api.Errno) {
	g, e := beginGale(r, winds)
	if e != api.OK {
		return api.Ratio{}, e
	}
	full := func(drifts []int) bool { return len(drifts) == Shots }
	if len(witnesses) != 2*g.Clicks+1 || !every(witnesses, full) {
		return api.Ratio{}, api.ErrCount
	}
	if !every(witnesses, g.has) {
		return api.Ratio{}, api.ErrWrong
	}
	_, n := contest[int]{g.clicks(0), func(click int) int {
		return g.missed(witnesses[click+g.Clicks], click)
	}}.won()
	return ratio(n, g.sum), api.OK
}

// has reports whether drifts are a case of the winds.
func (g gale) has(drifts []int) bool {
	for k := range Shots {
		if !within(drifts[k], g.winds[k].Lo, g.winds[k].Hi) {
			return false
		}
	}
	return true
}

// worst returns a worst case of a click. Each shot has its worst drift, since no
// shot depends on another one.
func (g gale) worst(click int) [Shots]int {
	var drifts [Shots]int
	for k := range Shots {
		most := -1
		for drift := g.winds[k].Lo; drift <= g.winds[k].Hi; drift++ {
			if n := g.misses(drift, click); n > most {
				drifts[k], most = drift, n
			}
		}
	}
	return drifts
}

// missed returns the misses to be expected of a case with a click, by the sum of the group.
func (g gale) missed(drifts []int, click int) int {
	return total(drifts, func(drift int) int { return g.misses(drift, click) })
}
