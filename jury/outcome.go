package jury

import (
	"iter"
	"slices"

	"klister/api"
)

// open returns the decisions that are open.
func (w work) open() []int { return w.numbers(w.isOpen) }

// large reports whether too many decisions are open.
func (w work) large() bool { return len(w.open()) > MaxOpen }

// outcomes yields all outcomes with their results.
func (w work) outcomes() iter.Seq2[[]int, []Line] {
	open := w.open()
	return func(yield func([]int, []Line) bool) {
		for set := range 1 << len(open) {
			var upheld []int
			for k := range len(open) {
				if set>>k&1 == 1 {
					upheld = append(upheld, open[k])
				}
			}
			if !yield(upheld, w.in(upheld).result()) {
				return
			}
		}
	}
}

// Outcome returns the result in an outcome.
func Outcome(r Record, upheld []int) ([]Line, api.Errno) {
	w, e := begin(r)
	if e != api.OK {
		return nil, e
	}
	open := w.open()
	switch {
	case !every(upheld, func(n int) bool { return slices.Contains(open, n) }):
		return nil, api.ErrUnknown
	case !increasing(upheld):
		return nil, api.ErrOrder
	}
	return w.in(upheld).result(), api.OK
}

// beginPlaces returns a record at work, or the error of the record, of a bib,
// or of too many open decisions.
func beginPlaces(r Record, bib int) (work, api.Errno) {
	w, _, e := beginSkier(r, bib)
	if e != api.OK {
		return work{}, e
	}
	if w.large() {
		return work{}, api.ErrLarge
	}
	return w, api.OK
}

// Places returns the places that a skier has in some outcome.
func Places(r Record, bib int) (places []int, out bool, e api.Errno) {
	w, e := beginPlaces(r, bib)
	if e != api.OK {
		return nil, false, e
	}
	for _, lines := range w.outcomes() {
		for _, l := range lines {
			switch {
			case l.Bib != bib:
			case l.Place == None:
				out = true
			default:
				places = append(places, l.Place)
			}
		}
	}
	slices.Sort(places)
	return slices.Compact(places), out, api.OK
}

// Scenario returns an outcome in which a skier has a place.
func Scenario(r Record, bib, place int) ([]int, api.Errno) {
	w, e := beginPlaces(r, bib)
	if e != api.OK {
		return nil, e
	}
	scenario, e := []int(nil), api.ErrNone
search:
	for upheld, lines := range w.outcomes() {
		for _, l := range lines {
			if l.Bib == bib && l.Place == place {
				scenario, e = upheld, api.OK
				break search
			}
		}
	}
	return scenario, e
}

// Matters reports whether an open decision matters.
func Matters(r Record, number int) (bool, api.Errno) {
	w, e := begin(r)
	if e != api.OK {
		return false, e
	}
	switch {
	case !slices.Contains(w.open(), number):
		return false, api.ErrUnknown
	case w.large():
		return false, api.ErrLarge
	}
	for upheld, without := range w.outcomes() {
		if slices.Contains(upheld, number) {
			continue
		}
		with := w.in(append(slices.Clone(upheld), number)).result()
		if !slices.Equal(with, without) {
			return true, api.OK
		}
	}
	return false, api.OK
}
