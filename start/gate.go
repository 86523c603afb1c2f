package start

import (
	"slices"

	"klister/api"
)

// gap is a clear time.
type gap int

// near reports whether two starts are close.
func (g gap) near(a, b Start) bool {
	return max(a.Time, b.Time)-min(a.Time, b.Time) < int(g)
}

// checkGates returns the errors of a start list and a clear time.
func checkGates(l []Start, clear int) api.Errno {
	if e := CheckList(l); e != api.OK {
		return e
	}
	if !within(clear, 1, MaxClear) {
		return api.ErrRange
	}
	return api.OK
}

// crowd returns the longest part of a start list each two of whose starts are
// close: they are if its first and its last one are.
func crowd(l []Start, near func(a, b Start) bool) []Start {
	var longest []Start
	first := 0
	for last := range l {
		for !near(l[first], l[last]) {
			first++
		}
		if last-first >= len(longest) {
			longest = l[first : last+1]
		}
	}
	return longest
}

// Gates returns the fewest gates of a start list.
func Gates(l []Start, clear int) (int, api.Errno) {
	if e := checkGates(l, clear); e != api.OK {
		return 0, e
	}
	return len(crowd(l, gap(clear).near)), api.OK
}

// Gated returns a start list with clear gates.
func Gated(l []Start, clear int) ([]Start, api.Errno) {
	gates, e := Gates(l, clear)
	if e != api.OK {
		return nil, e
	}
	// Two starts that are as many places apart as there are gates are not
	// close: with those between them they would be a greater crowd.
	list := slices.Clone(l)
	for i := range list {
		list[i].Gate = i%gates + 1
	}
	return list, api.OK
}

// Clear reports whether a start list has clear gates.
func Clear(l []Start, clear int) (bool, api.Errno) {
	if e := checkGates(l, clear); e != api.OK {
		return false, e
	}
	near := gap(clear).near
	return every(l, func(a Start) bool {
		return a.Gate >= 1 && every(l, func(b Start) bool {
			return a == b || a.Gate != b.Gate || !near(a, b)
		})
	}), api.OK
}

// Crowd returns a crowd that proves that fewer gates are not enough.
func Crowd(l []Start, clear int) ([]int, api.Errno) {
	if e := checkGates(l, clear); e != api.OK {
		return nil, e
	}
	var bibs []int
	for _, s := range crowd(l, gap(clear).near) {
		bibs = append(bibs, s.Bib)
	}
	return bibs, api.OK
}

// Crowds reports whether bibs are a crowd.
func Crowds(l []Start, clear int, bibs []int) (bool, api.Errno) {
	if e := checkGates(l, clear); e != api.OK {
		return false, e
	}
	return crowded(l, bibs, gap(clear).near), api.OK
}

// crowded reports whether bibs are a crowd of a start list.
func crowded(l []Start, bibs []int, near func(a, b Start) bool) bool {
	var before []Start
	for _, bib := range bibs {
		place := placeOf(l, bib)
		if place < 0 {
			return false
		}
		next := l[place]
		if !every(before, func(s Start) bool { return s != next && near(s, next) }) {
			return false
		}
		before = append(before, next)
	}
	return true
}
