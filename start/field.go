package start

import "klister/api"

// limit is from where to where a number of a skier may be.
type limit struct {
	number func(Skier) int
	lo, hi int
}

func bib(s Skier) int    { return s.Bib }
func nation(s Skier) int { return s.Nation }
func rank(s Skier) int   { return s.Rank }

// limits returns those of all numbers of a skier.
func limits() []limit {
	return []limit{{bib, 1, MaxBib}, {nation, 0, MaxNation}, {rank, 1, MaxRank}}
}

// Check returns the error of a field.
func Check(f []Skier) api.Errno {
	if !within(len(f), 1, MaxSkiers) {
		return api.ErrCount
	}
	for _, x := range limits() {
		if !every(f, func(s Skier) bool { return within(x.number(s), x.lo, x.hi) }) {
			return api.ErrRange
		}
	}
	if twice(f, bib) || twice(f, rank) {
		return api.ErrTwice
	}
	return api.OK
}

// Ranked returns the numbers of the skiers, the best one first.
func Ranked(f []Skier) ([]int, api.Errno) {
	if e := Check(f); e != api.OK {
		return nil, e
	}
	numbers := make([]int, len(f))
	for i := range len(f) {
		numbers[i] = i
	}
	return sorted(numbers, func(i int) int { return f[i].Rank }), api.OK
}

// Groups returns the groups.
func Groups(f []Skier, sizes []int) ([][]int, api.Errno) {
	left, e := Ranked(f)
	if e != api.OK {
		return nil, e
	}
	if !within(len(sizes), 1, MaxGroups) {
		return nil, api.ErrCount
	}
	if !every(sizes, func(n int) bool { return within(n, 1, MaxSkiers) }) {
		return nil, api.ErrRange
	}
	if sum(sizes...) != len(f) {
		return nil, api.ErrConflict
	}
	groups := make([][]int, len(sizes))
	for i, size := range sizes {
		// Each group is appended to a list of its own: groups share no memory.
		groups[i] = append(groups[i], left[:size]...)
		left = left[size:]
	}
	return groups, api.OK
}

// Draw returns the order in which lots bring the groups.
func Draw(f []Skier, sizes, lots []int) ([]int, api.Errno) {
	groups, e := Groups(f, sizes)
	if e != api.OK {
		return nil, e
	}
	if len(lots) != len(f) {
		return nil, api.ErrCount
	}
	if !every(lots, func(n int) bool { return within(n, 0, MaxLot) }) {
		return nil, api.ErrRange
	}
	if twice(lots, self) {
		return nil, api.ErrTwice
	}
	order := make([]int, 0, len(f))
	for _, group := range groups {
		order = append(order, sorted(group, func(i int) int { return lots[i] })...)
	}
	return order, api.OK
}
