package target

import (
	"cmp"
	"iter"
	"maps"
	"slices"

	"klister/api"
)

// table is how many targets of each lane each skier has hit, by skiers and lanes.
type table [MaxLanes][MaxLanes]int

// work is a bout at work: with all pairs of a skier and a lane that the skier
// can have hit, the own one too, and with the hits that are found so far.
type work struct {
	Bout
	pairs map[Pair]bool
	hits  table
}

// reach is what a skier can have hit.
type reach struct {
	pairs map[Pair]bool
	skier int
}

// has reports whether the skier can have hit targets of a lane.
func (r reach) has(lane int) bool { return r.pairs[Pair{Skier: r.skier, Lane: lane}] }

// Check reports whether a bout is valid.
func Check(b Bout) api.Errno {
	if !within(len(b.Shots), 1, MaxLanes) || len(b.Down) != len(b.Shots) {
		return api.ErrCount
	}
	shots := every(b.Shots, func(n int) bool { return within(n, 0, MaxShots) })
	if !shots || !every(b.Down, func(n int) bool { return within(n, 0, Targets) }) {
		return api.ErrRange
	}
	if !every(b.Across, func(p Pair) bool { return b.has(p) && p.Skier != p.Lane }) {
		return api.ErrUnknown
	}
	if !increasing(b.Across, func(p, q Pair) int {
		return cmp.Or(cmp.Compare(p.Skier, q.Skier), cmp.Compare(p.Lane, q.Lane))
	}) {
		return api.ErrOrder
	}
	return api.OK
}

// has reports whether a bout has the skier and the lane of a pair.
func (b Bout) has(p Pair) bool {
	last := len(b.Shots) - 1
	return within(p.Skier, 0, last) && within(p.Lane, 0, last)
}

// checkLanes returns the errors of lanes of a bout.
func (b Bout) checkLanes(lanes []int) api.Errno {
	if !every(lanes, func(lane int) bool { return within(lane, 0, len(b.Down)-1) }) {
		return api.ErrUnknown
	}
	if !increasing(lanes, cmp.Compare) {
		return api.ErrOrder
	}
	return api.OK
}

// begin begins the work on a bout, if it is valid.
func begin(b Bout) (*work, api.Errno) {
	if e := Check(b); e != api.OK {
		return nil, e
	}
	pairs := map[Pair]bool{}
	for i := range b.Shots {
		pairs[Pair{Skier: i, Lane: i}] = true
	}
	for _, p := range b.Across {
		pairs[p] = true
	}
	return &work{Bout: b, pairs: pairs}, api.OK
}

// reach returns what a skier can have hit.
func (w *work) reach(skier int) reach { return reach{w.pairs, skier} }

// lanes yields the lanes that a skier can have hit.
func (w *work) lanes(skier int) iter.Seq[int] {
	return func(yield func(int) bool) {
		for lane := range w.Down {
			if w.reach(skier).has(lane) && !yield(lane) {
				return
			}
		}
	}
}

// most returns the most targets of a lane that a skier can have hit, whatever the others have.
func (w *work) most(p Pair) int {
	if !w.pairs[p] {
		return 0
	}
	return least(w.Shots[p.Skier], w.Down[p.Lane])
}

// down returns how many targets of some lanes have fallen.
func (w *work) down(lanes []int) int {
	return total(lanes, func(lane int) int { return w.Down[lane] })
}

// bound returns how many shots all who can have hit some lanes have fired, but for one skier.
func (w *work) bound(lanes []int, but int) int {
	shots := 0
	for skier, n := range w.Shots {
		if skier != but && slices.ContainsFunc(lanes, w.reach(skier).has) {
			shots += n
		}
	}
	return shots
}

// idle returns a copy of a bout, without its hits, in which a skier has fired so many shots less.
func (w *work) idle(skier, shots int) *work {
	c := &work{Bout: w.Bout, pairs: maps.Clone(w.pairs)}
	c.Shots, c.Down = slices.Clone(w.Shots), slices.Clone(w.Down)
	c.Shots[skier] -= shots
	return c
}

// without returns a copy of a bout that lacks so many hits of a pair, and in
// which there are no others of it: whatever is an assignment of the copy is one
// of the bout, with just these hits besides.
func (w *work) without(p Pair, hits int) *work {
	c := w.idle(p.Skier, hits)
	c.Down[p.Lane] -= hits
	delete(c.pairs, p)
	return c
}
