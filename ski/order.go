package ski

import "klister/api"

// Faster returns all pairs of skis of which one is faster.
func Faster(l Lab) ([]Pair, api.Errno) {
	b, e := beginSound(l)
	if e != api.OK {
		return nil, e
	}
	var pairs []Pair
	for fast := range b.Skis {
		for slow := range b.Skis {
			if b.ranking[fast][slow] {
				pairs = append(pairs, Pair{Fast: fast, Slow: slow})
			}
		}
	}
	return pairs, api.OK
}

// Places returns the least and the greatest place of each ski.
func Places(l Lab) ([]api.Span, api.Errno) {
	b, e := beginSound(l)
	if e != api.OK {
		return nil, e
	}
	return b.places(b.Skis), api.OK
}

// Orders returns how many orders fit.
func Orders(l Lab) (int, api.Errno) {
	b, e := beginSound(l)
	if e != api.OK {
		return 0, e
	}
	// The orders in which the skis of a set come first, by the set.
	orders := make([]int, 1<<b.Skis)
	orders[0] = 1
	for s := range set(1 << b.Skis) {
		for ski := range s.all() {
			if before := s.without(ski); b.allows(before, ski) {
				orders[s] += orders[before]
			}
		}
	}
	return orders[len(orders)-1], api.OK
}

// First returns the first order that fits.
func First(l Lab) ([]int, api.Errno) {
	b, e := beginSound(l)
	if e != api.OK {
		return nil, e
	}
	var order []int
	before := set(0)
	for range b.Skis {
		for ski := range b.Skis {
			if !before.has(ski) && b.allows(before, ski) {
				order = append(order, ski)
				before = before.with(ski)
				break
			}
		}
	}
	return order, api.OK
}
