package chip

import (
	"iter"

	"klister/api"
)

// class is what a point is.
type class int

const (
	zeroClass class = iota
	spotClass
	clockClass
)

// point is Zero, a spot or a clock.
type point struct {
	class class
	spot  Spot
	clock int
}

// zero returns the point Zero.
func zero() point { return point{class: zeroClass} }

// at returns the point that is a spot.
func at(s Spot) point { return point{class: spotClass, spot: s} }

// of returns the point that is a clock.
func of(clock int) point { return point{class: clockClass, clock: clock} }

// way is what all steps of a kind have: of how many skiers and indices there are
// any, from where to where one leads up, and what it counts: up the Hi, and down
// minus the Lo.
type way struct {
	skiers, indices int
	ends            func(Step) (from, to point)
	counts          func(Step) api.Span
}

// ways are those of all kinds.
type ways [Read + 1]way

// waysOf returns the ways of a race.
func waysOf(r Race) ways {
	return ways{
		Start: {
			len(r.Starts), 1,
			func(s Step) (from, to point) { return zero(), at(Spot{s.Skier, 0}) },
			func(s Step) api.Span { return around(r.Starts[s.Skier], 0) },
		},
		Split: {
			len(r.Starts), len(r.Splits),
			func(s Step) (from, to point) { return at(Spot{s.Skier, s.Index}), at(Spot{s.Skier, s.Index + 1}) },
			func(s Step) api.Span { return r.Splits[s.Index] },
		},
		Offset: {
			1, len(r.Clocks),
			func(s Step) (from, to point) { return zero(), of(s.Index) },
			// The number of a clock is minus its offset.
			func(s Step) api.Span { return minus(r.Clocks[s.Index].Offset) },
		},
		Read: {
			1, len(r.Readings),
			func(s Step) (from, to point) { return of(r.Readings[s.Index].Clock), at(r.Readings[s.Index].spot()) },
			func(s Step) api.Span {
				x := r.Readings[s.Index]
				return around(x.Time, r.Clocks[x.Clock].Error)
			},
		},
	}
}

// has reports whether there is a step.
func (w ways) has(s Step) bool {
	return within(int(s.Kind), 0, int(Read)) &&
		within(s.Skier, 0, w[s.Kind].skiers-1) && within(s.Index, 0, w[s.Kind].indices-1)
}

// ends returns from where to where a step leads.
func (w ways) ends(s Step) (from, to point) {
	from, to = w[s.Kind].ends(s)
	if s.Up {
		return from, to
	}
	return to, from
}

// counts returns what a step counts.
func (w ways) counts(s Step) int {
	span := w[s.Kind].counts(s)
	if s.Up {
		return span.Hi
	}
	return -span.Lo
}

// steps yields all steps.
func (w ways) steps() iter.Seq[Step] {
	return func(yield func(Step) bool) {
		for kind := range Read + 1 {
			for skier := range w[kind].skiers {
				for index := range w[kind].indices {
					for _, up := range [...]bool{true, false} {
						if !yield(Step{kind, skier, index, up}) {
							return
						}
					}
				}
			}
		}
	}
}
