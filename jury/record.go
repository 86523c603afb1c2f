package jury

import (
	"cmp"
	"slices"

	"klister/api"
)

// bib returns the bib of a skier.
func (s Skier) bib() int { return s.Bib }

// limited reports whether the numbers of a skier are within their limits.
func (s Skier) limited() bool {
	return within(s.Bib, 1, MaxBib) && (s.Time == None || within(s.Time, 0, MaxTime))
}

// number returns the Number of a decision.
func (d Decision) number() int { return d.Number }

// limited reports whether the numbers of a decision are within their limits.
func (d Decision) limited() bool {
	return within(d.Number, 1, MaxNumber) && within(int(d.Kind), int(Penalty), int(Dismiss)) &&
		within(d.Minute, 0, MaxMinute) && within(d.Much, 0, d.Kind.trait().most)
}

// ordered reports whether a decision is about nothing that comes after it.
func (d Decision) ordered() bool {
	if d.Kind.trait().own {
		return d.About == 0
	}
	return within(d.About, 1, d.Number-1)
}

// names reports whether a decision has the bib of a skier, or none if it is
// not about a skier.
func (r Record) names(d Decision) bool {
	if d.Kind.trait().own {
		return slices.Contains(r.bibs(), d.Bib)
	}
	return d.Bib == 0
}

// bibs returns the bibs of all skiers.
func (r Record) bibs() []int { return mapped(r.Skiers, Skier.bib) }

// Check returns the error of a record.
func Check(r Record) api.Errno {
	switch {
	case !within(len(r.Skiers), 1, MaxSkiers) || len(r.Decisions) > MaxDecisions:
		return api.ErrCount
	case !within(r.Deadline, 0, MaxMinute) || !every(r.Skiers, Skier.limited) || !every(r.Decisions, Decision.limited):
		return api.ErrRange
	case twice(r.bibs()) || twice(mapped(r.Decisions, Decision.number)):
		return api.ErrTwice
	case !every(r.Decisions, r.names):
		return api.ErrUnknown
	case !every(r.Decisions, Decision.ordered):
		return api.ErrOrder
	}
	return api.OK
}

// copied returns a record that shares no memory with the one it is made of.
func (r Record) copied() Record {
	r.Skiers, r.Decisions = slices.Clone(r.Skiers), slices.Clone(r.Decisions)
	return r
}

// Add returns the record with one decision more.
func Add(r Record, d Decision) (Record, api.Errno) {
	if e := Check(r); e != api.OK {
		return Record{}, e
	}
	longer := r.copied()
	longer.Decisions = append(longer.Decisions, d)
	if e := Check(longer); e != api.OK {
		return Record{}, e
	}
	return longer, api.OK
}

// Sorted returns the record in order.
func Sorted(r Record) (Record, api.Errno) {
	if e := Check(r); e != api.OK {
		return Record{}, e
	}
	sorted := r.copied()
	slices.SortFunc(sorted.Skiers, func(a, b Skier) int { return cmp.Compare(a.Bib, b.Bib) })
	slices.SortFunc(sorted.Decisions, func(a, b Decision) int { return cmp.Compare(a.Number, b.Number) })
	return sorted, api.OK
}
