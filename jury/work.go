package jury

import (
	"slices"

	"klister/api"
)

// work is a sorted record at work in an outcome, with its decisions by their
// Numbers, and those about each Number in increasing order.
type work struct {
	Record
	decisions map[int]Decision
	about     map[int][]Decision
	upheld    []int
	counts    map[int]bool
}

// begin returns a record at work in the outcome in which nothing that is open
// is upheld, or the error of the record.
func begin(r Record) (work, api.Errno) {
	sorted, e := Sorted(r)
	if e != api.OK {
		return work{}, e
	}
	w := work{Record: sorted, decisions: map[int]Decision{}, about: map[int][]Decision{}}
	for _, d := range w.Decisions {
		w.decisions[d.Number] = d
		w.about[d.About] = append(w.about[d.About], d)
	}
	return w.in(nil), api.OK
}

// beginNumber returns a record at work and one of its decisions, or the error
// of the record or of the Number.
func beginNumber(r Record, number int) (work, Decision, api.Errno) {
	w, e := begin(r)
	if e != api.OK {
		return work{}, Decision{}, e
	}
	d, is := w.decisions[number]
	if !is {
		return work{}, Decision{}, api.ErrUnknown
	}
	return w, d, api.OK
}

// beginSkier returns a record at work and one of its skiers, or the error of
// the record or of the bib.
func beginSkier(r Record, bib int) (work, Skier, api.Errno) {
	w, e := begin(r)
	if e != api.OK {
		return work{}, Skier{}, e
	}
	k := slices.Index(w.bibs(), bib)
	if k < 0 {
		return work{}, Skier{}, api.ErrUnknown
	}
	return w, w.Skiers[k], api.OK
}

// in returns the record at work in another outcome. Whether a decision counts
// depends on those about it, and on those about these, all with greater
// Numbers: so the closure comes to an end, and what it asks is known already.
func (w work) in(upheld []int) work {
	w.upheld, w.counts = upheld, map[int]bool{}
	late := w.late
	var counts func(d Decision) bool
	counts = func(d Decision) bool {
		if _, known := w.counts[d.Number]; !known {
			cancels := func(other Decision) bool { return w.cancels(other, d) }
			counting := kept(w.about[d.Number], counts)
			w.counts[d.Number] = !late(d) && !slices.ContainsFunc(counting, cancels)
		}
		return w.counts[d.Number]
	}
	for _, d := range w.Decisions {
		counts(d)
	}
	return w
}

// late reports whether a decision is late.
func (r Record) late(d Decision) bool { return d.asks() && d.Minute > r.Deadline }

// cancels reports whether a decision that counts cancels the one that it is about.
func (w work) cancels(d, about Decision) bool {
	return d.Kind == Cancel || d.Kind == Protest && !about.rules() && w.isUpheld(d)
}

// last returns the one with the greatest Number of the decisions about another
// one that count and have one of some kinds.
func (w work) last(about Decision, kinds ...Kind) (Decision, bool) {
	for _, d := range slices.Backward(w.about[about.Number]) {
		if w.counts[d.Number] && slices.Contains(kinds, d.Kind) {
			return d, true
		}
	}
	return Decision{}, false
}

// ruling returns what decides a decision that asks.
func (w work) ruling(d Decision) (Decision, bool) { return w.last(d, Uphold, Dismiss) }

// isUpheld reports whether a decision that asks is upheld.
func (w work) isUpheld(d Decision) bool {
	if ruling, is := w.ruling(d); is {
		return ruling.Kind == Uphold
	}
	return slices.Contains(w.upheld, d.Number)
}

// isCounted reports whether a decision counts.
func (w work) isCounted(d Decision) bool { return w.counts[d.Number] }

// isOpen reports whether a decision is open.
func (w work) isOpen(d Decision) bool {
	_, decided := w.ruling(d)
	return d.asks() && w.counts[d.Number] && !decided
}
