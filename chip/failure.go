package chip

import (
	"slices"

	"klister/api"
)

// False returns the fewest readings without which there is a truth.
func False(r Race) ([]int, api.Errno) {
	if e := Check(r); e != api.OK {
		return nil, e
	}
	var found []int
	e := api.ErrLarge
	// All lists of as many readings that can be enough, in lexicographic order.
	lists := [][]int{nil}
search:
	for range MaxFalse + 1 {
		var longer [][]int
		for _, list := range lists {
			suspects := r.suspects(list)
			if len(suspects) == 0 {
				found, e = list, api.OK
				break search
			}
			for _, k := range suspects {
				longer = append(longer, slices.Sorted(slices.Values(append(slices.Clone(list), k))))
			}
		}
		slices.SortFunc(longer, slices.Compare)
		lists = slices.CompactFunc(longer, slices.Equal)
	}
	return found, e
}

// suspects returns the readings in a clash of a race without a list of readings:
// at least one of them has to be left out as well. If there is a truth, there are none.
func (r Race) suspects(list []int) []int {
	var suspects []int
	for _, s := range newWork(r.without(list...)).clash {
		if s.Kind == Read {
			suspects = append(suspects, indexWith(list, s.Index))
		}
	}
	return suspects
}

// without returns a race without a list of readings. The list is strictly increasing.
func (r Race) without(list ...int) Race {
	r.Readings = slices.Clone(r.Readings)
	for _, k := range slices.Backward(list) {
		r.Readings = slices.Delete(r.Readings, k, k+1)
	}
	return r
}

// indexWith returns the index in a race of the reading that has an index in the
// race without a list of readings.
func indexWith(list []int, index int) int {
	for _, k := range list {
		if k <= index {
			index++
		}
	}
	return index
}

// Blame returns the skiers without whose readings there is a truth.
func Blame(r Race) ([]int, api.Errno) {
	if e := Check(r); e != api.OK {
		return nil, e
	}
	if newWork(r).sound() {
		return nil, api.ErrNone
	}
	return indices(len(r.Starts), r.soundWithout), api.OK
}

// soundWithout reports whether there is a truth if a skier is left out. The
// start and the splits of a skier without readings can stay: they contradict nothing.
func (r Race) soundWithout(skier int) bool {
	r.Readings = slices.DeleteFunc(slices.Clone(r.Readings), func(x Reading) bool { return x.Skier == skier })
	return newWork(r).sound()
}

// Matter returns the readings without which the range of a spot is wider.
func Matter(r Race, s Spot) ([]int, api.Errno) {
	all, e := Range(r, s)
	if e != api.OK {
		return nil, e
	}
	wider := func(k int) bool { return newWork(r.without(k)).gap(zero(), at(s)) != all }
	return indices(len(r.Readings), wider), api.OK
}
