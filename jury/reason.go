package jury

import (
	"slices"

	"klister/api"
)

// Core returns the decisions that make the total of a skier.
func Core(r Record, bib int) ([]int, api.Errno) {
	w, s, e := beginSkier(r, bib)
	if e != api.OK {
		return nil, e
	}
	var core []int
	for _, d := range w.reasons(s) {
		core = append(core, mapped(w.replaced(d), Decision.number)...)
		if ruling, is := w.ruling(d); is && d.Kind == Claim {
			core = append(core, ruling.Number)
		}
	}
	slices.Sort(core)
	return core, api.OK
}

// Explains reports whether some decisions make the total of a skier.
func Explains(r Record, bib int, numbers []int) (bool, api.Errno) {
	w, s, e := beginSkier(r, bib)
	if e != api.OK {
		return false, e
	}
	listed := map[int]bool{}
	for _, n := range numbers {
		if _, is := w.decisions[n]; !is {
			return false, api.ErrUnknown
		}
		listed[n] = true
	}
	part := w.Record
	part.Decisions = kept(w.Decisions, func(d Decision) bool { return listed[d.Number] })
	// A record without an error has none with fewer decisions either: none of
	// them has to be about one that there is.
	alone, _ := begin(part)
	return alone.score(s) == w.score(s), api.OK
}
