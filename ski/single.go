package ski

import (
	"cmp"
	"slices"

	"klister/api"
)

// checkSingles returns the errors of single skis.
func checkSingles(stiff []int) api.Errno {
	if !within(len(stiff), 2, MaxSingles) || len(stiff)%2 != 0 {
		return api.ErrCount
	}
	if !every(stiff, func(n int) bool { return within(n, 0, MaxStiff) }) {
		return api.ErrRange
	}
	return api.OK
}

// Match returns a pairing with the least cost, and this.
func Match(stiff []int) ([][2]int, int, api.Errno) {
	if e := checkSingles(stiff); e != api.OK {
		return nil, 0, e
	}
	pairs := neighbours(stiff)
	return pairs, cost(stiff, pairs), api.OK
}

// neighbours returns the pairing of skis that are next to each other in the order of their stiffness.
func neighbours(stiff []int) [][2]int {
	order := make([]int, len(stiff))
	for i := range order {
		order[i] = i
	}
	slices.SortStableFunc(order, func(a, b int) int { return cmp.Compare(stiff[a], stiff[b]) })
	pairs := make([][2]int, len(order)/2)
	for i := range pairs {
		pairs[i] = [2]int{order[2*i], order[2*i+1]}
	}
	return pairs
}

// cost returns the cost of a pairing.
func cost(stiff []int, pairs [][2]int) int {
	return total(pairs, func(p [2]int) int { return distance(stiff[p[0]], stiff[p[1]]) })
}

// Cost returns the cost of a pairing.
func Cost(stiff []int, pairs [][2]int) (int, api.Errno) {
	if e := checkSingles(stiff); e != api.OK {
		return 0, e
	}
	if len(pairs) != len(stiff)/2 {
		return 0, api.ErrCount
	}
	isSki := func(i int) bool { return within(i, 0, len(stiff)-1) }
	if !every(pairs, func(p [2]int) bool { return every(p[:], isSki) }) {
		return 0, api.ErrUnknown
	}
	var used set
	for _, p := range pairs {
		for _, i := range p {
			if used.has(i) {
				return 0, api.ErrTwice
			}
			used = used.with(i)
		}
	}
	return cost(stiff, pairs), api.OK
}

// Gaps returns gaps that show the least cost.
func Gaps(stiff []int) ([]api.Span, api.Errno) {
	if e := checkSingles(stiff); e != api.OK {
		return nil, e
	}
	// In order, the skis of each pair with the least cost are neighbours, with an
	// odd number of skis up to the first one of them.
	order := slices.Clone(stiff)
	slices.Sort(order)
	var gaps []api.Span
	for i := 0; i < len(order); i += 2 {
		if order[i] < order[i+1] {
			gaps = append(gaps, api.Span{Lo: order[i], Hi: order[i+1]})
		}
	}
	return gaps, api.OK
}

// GapsShow returns the sum of the lengths of gaps.
func GapsShow(stiff []int, gaps []api.Span) (int, api.Errno) {
	if e := checkSingles(stiff); e != api.OK {
		return 0, e
	}
	if len(gaps) > MaxSingles {
		return 0, api.ErrCount
	}
	for i, gap := range gaps {
		if !parts(stiff, gap) || i > 0 && gap.Lo < gaps[i-1].Hi {
			return 0, api.ErrWrong
		}
	}
	return total(gaps, func(gap api.Span) int { return gap.Hi - gap.Lo }), api.OK
}

// parts reports whether an odd number of skis are at one end of a gap or below
// it, and all others at the other end or above it.
func parts(stiff []int, gap api.Span) bool {
	soft := count(stiff, func(n int) bool { return n <= gap.Lo })
	hard := count(stiff, func(n int) bool { return n >= gap.Hi })
	return gap.Lo < gap.Hi && soft%2 == 1 && soft+hard == len(stiff)
}
