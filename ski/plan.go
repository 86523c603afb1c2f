package ski

import (
	"iter"

	"klister/api"
)

// plan is a lab at work, of which the first places are to be known.
type plan struct {
	bench
	first int
}

// beginPlan begins the work on a lab with at most so many skis, of which the
// first k places are to be known, if all of it is valid.
func beginPlan(l Lab, k, most int) (plan, api.Errno) {
	b, e := begin(l)
	if e != api.OK {
		return plan{}, e
	}
	if !within(k, 1, b.Skis) {
		return plan{}, api.ErrRange
	}
	if b.Skis > most {
		return plan{}, api.ErrLarge
	}
	if b.contradicts() {
		return plan{}, api.ErrConflict
	}
	return plan{b, k}, api.OK
}

// Known reports whether the first places are known.
func Known(l Lab, k int) (bool, api.Errno) {
	p, e := beginPlan(l, k, MaxSkis)
	if e != api.OK {
		return false, e
	}
	return p.known(p.ranking), api.OK
}

// Fewest returns the fewest further runs.
func Fewest(l Lab, k int) (int, api.Errno) {
	p, e := beginPlan(l, k, MaxPlan)
	if e != api.OK {
		return 0, e
	}
	return p.made()(p.ranking), api.OK
}

// Worth returns the fewest further runs if the next one is given.
func Worth(l Lab, k, a, b int) (int, api.Errno) {
	p, e := beginPlan(l, k, MaxPlan)
	if e != api.OK {
		return 0, e
	}
	if !p.has(a) || !p.has(b) || a == b {
		return 0, api.ErrUnknown
	}
	return worth(p.ranking, Run{A: a, B: b}, p.made()), api.OK
}

// Next returns a further run to be made next.
func Next(l Lab, k int) (Run, api.Errno) {
	p, e := beginPlan(l, k, MaxPlan)
	if e != api.OK {
		return Run{}, e
	}
	next, _ := p.best(p.ranking, p.made())
	if next == (Run{}) {
		return Run{}, api.ErrNone
	}
	return next, api.OK
}

// known reports whether the first places are known by a ranking: as many skis
// then have no other place than one of these.
func (p plan) known(r ranking) bool {
	n := count(r.places(p.Skis), func(s api.Span) bool { return s.Lo == s.Hi && s.Hi <= p.first })
	return n == p.first
}

// made returns what computes the fewest further runs for a ranking. What it has
// computed once it knows.
func (p plan) made() func(ranking) int {
	plans := map[ranking]int{}
	var fewest func(ranking) int
	fewest = func(r ranking) int {
		n, found := plans[r]
		if !found {
			_, n = p.best(r, fewest)
			plans[r] = n
		}
		return n
	}
	return fewest
}

// best returns a further run with the least worth, and this; no run, and 0, if
// the first places are known.
func (p plan) best(r ranking, fewest func(ranking) int) (Run, int) {
	var next Run
	if p.known(r) {
		return next, 0
	}
	few := 0
	for run := range p.open(r) {
		if n := worth(r, run, fewest); next == (Run{}) || n < few {
			next, few = run, n
		}
	}
	return next, few
}

// open yields all further runs of which it is not known what they will show. One
// that shows what is known leaves a ranking as it is, so that a plan is shorter without it.
func (p plan) open(r ranking) iter.Seq[Run] {
	known := func(shown Pair) bool { return r.with(shown) == r }
	return func(yield func(Run) bool) {
		for a := range p.Skis {
			for b := a + 1; b < p.Skis; b++ {
				if known(Pair{a, b}) || known(Pair{b, a}) {
					continue
				}
				if !yield(Run{A: a, B: b}) {
					return
				}
			}
		}
	}
}

// worth returns the fewest further runs for a ranking if one of them is the next
// one, whatever it shows that does not contradict the ranking.
func worth(r ranking, next Run, fewest func(ranking) int) int {
	most := 0
	for _, w := range ways() {
		if after := r.with(w.pair(next)); !after.contradicts() {
			most = max(most, fewest(after))
		}
	}
	return 1 + most
}
