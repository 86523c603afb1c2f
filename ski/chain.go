package ski

import (
	"iter"
	"slices"

	"klister/api"
)

// Chain returns a chain of the fewest runs.
func Chain(l Lab, fast, slow int) ([]int, api.Errno) {
	b, e := begin(l)
	if e != api.OK {
		return nil, e
	}
	if !b.has(fast) || !b.has(slow) {
		return nil, api.ErrUnknown
	}
	for ski, chain := range b.chains(fast) {
		if ski == slow {
			return chain, api.OK
		}
	}
	return nil, api.ErrNone
}

// end is where a chain ends.
type end struct {
	ski   int
	chain []int
}

// chains yields all skis to which there is a chain from a ski, with a chain of
// the fewest runs to each: those with fewer runs first.
func (b bench) chains(fast int) iter.Seq2[int, []int] {
	return func(yield func(int, []int) bool) {
		// The ski itself is not reached at the beginning, but by a round.
		var reached [MaxSkis]bool
		ends := []end{{ski: fast}}
		for len(ends) > 0 {
			last := ends[0]
			ends = ends[1:]
			for k, p := range b.shown() {
				if p.Fast != last.ski || reached[p.Slow] {
					continue
				}
				reached[p.Slow] = true
				next := end{p.Slow, append(slices.Clone(last.chain), k)}
				ends = append(ends, next)
				if !yield(next.ski, next.chain) {
					return
				}
			}
		}
	}
}

// ChainShows reports whether runs are a chain.
func ChainShows(l Lab, fast, slow int, chain []int) (bool, api.Errno) {
	b, e := begin(l)
	if e != api.OK {
		return false, e
	}
	isRun := func(k int) bool { return within(k, 0, len(b.Runs)-1) }
	if !b.has(fast) || !b.has(slow) || !every(chain, isRun) {
		return false, api.ErrUnknown
	}
	return b.links(fast, slow, chain), api.OK
}

// links reports whether runs are a chain from a ski to another one.
func (b bench) links(fast, slow int, chain []int) bool {
	shows := map[int]Pair{}
	for k, p := range b.shown() {
		shows[k] = p
	}
	at := fast
	for _, k := range chain {
		p, something := shows[k]
		if !something || p.Fast != at {
			return false
		}
		at = p.Slow
	}
	return len(chain) > 0 && at == slow
}

// Round returns runs that contradict each other.
func Round(l Lab) ([]int, api.Errno) {
	b, e := begin(l)
	if e != api.OK {
		return nil, e
	}
	var round []int
search:
	for first := range b.Skis {
		for ski, chain := range b.chains(first) {
			if ski == first {
				round = chain
				break search
			}
		}
	}
	if len(round) == 0 {
		return nil, api.ErrNone
	}
	return round, api.OK
}

// Drop returns the fewest runs without which the others do not contradict each other.
func Drop(l Lab) ([]int, api.Errno) {
	b, e := begin(l)
	if e != api.OK {
		return nil, e
	}
	// If the skis of a set come first in an order, the fewest runs against the
	// order of them are those of the best ski to be the last one of the set.
	drops := make([][]int, 1<<b.Skis)
	for s := range set(1 << b.Skis) {
		var lists [][]int
		for ski := range s.all() {
			before := s.without(ski)
			lists = append(lists, slices.Concat(drops[before], b.against(before, ski)))
		}
		drops[s] = shortest(lists)
	}
	return slices.Sorted(slices.Values(drops[len(drops)-1])), api.OK
}

// against returns the runs that show that a ski is faster than one of a set.
func (b bench) against(s set, ski int) []int {
	var list []int
	for k, p := range b.shown() {
		if p.Fast == ski && s.has(p.Slow) {
			list = append(list, k)
		}
	}
	return list
}
