package ski

import (
	"iter"

	"klister/api"
)

// bench is a lab at work, with what its runs show.
type bench struct {
	Lab
	ranking
}

// way is one of the two ways in which a run can lead: by how much it leads that
// way, and who is faster if that is enough.
type way struct {
	lead func(Run) int
	pair func(Run) Pair
}

// ways returns both ways in which a run can lead.
func ways() [2]way {
	return [...]way{
		{func(r Run) int { return r.Lead }, func(r Run) Pair { return Pair{Fast: r.A, Slow: r.B} }},
		{func(r Run) int { return -r.Lead }, func(r Run) Pair { return Pair{Fast: r.B, Slow: r.A} }},
	}
}

// Check reports whether a lab is valid.
func Check(l Lab) api.Errno {
	if !within(l.Skis, 1, MaxSkis) || !within(l.Error, 0, MaxError) {
		return api.ErrRange
	}
	if len(l.Runs) > MaxRuns {
		return api.ErrCount
	}
	if !every(l.Runs, func(r Run) bool { return l.has(r.A) && l.has(r.B) && r.A != r.B }) {
		return api.ErrUnknown
	}
	if !every(l.Runs, func(r Run) bool { return within(r.Lead, -MaxLead, MaxLead) }) {
		return api.ErrRange
	}
	return api.OK
}

// has reports whether there is a ski.
func (l Lab) has(ski int) bool { return within(ski, 0, l.Skis-1) }

// begin begins the work on a lab, if it is valid.
func begin(l Lab) (bench, api.Errno) {
	if e := Check(l); e != api.OK {
		return bench{}, e
	}
	b := bench{Lab: l}
	for _, p := range l.shown() {
		b.ranking = b.with(p)
	}
	return b, api.OK
}

// beginSound begins the work on a lab, if it is valid and its runs do not contradict each other.
func beginSound(l Lab) (bench, api.Errno) {
	b, e := begin(l)
	if e != api.OK {
		return bench{}, e
	}
	if b.contradicts() {
		return bench{}, api.ErrConflict
	}
	return b, api.OK
}

// shown yields the runs that show something, by their indices, with what they show.
func (l Lab) shown() iter.Seq2[int, Pair] {
	return func(yield func(int, Pair) bool) {
		for k, r := range l.Runs {
			for _, w := range ways() {
				if w.lead(r) > l.Error && !yield(k, w.pair(r)) {
					return
				}
			}
		}
	}
}
