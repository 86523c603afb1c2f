package start

import (
	"cmp"
	"slices"

	"klister/api"
)

// Interval returns the start list of an order.
func Interval(f []Skier, order []int, interval int) ([]Start, api.Errno) {
	if _, e := Apart(f, order); e != api.OK {
		return nil, e
	}
	if !within(interval, 1, MaxTime) || interval*(len(f)-1) > MaxTime {
		return nil, api.ErrRange
	}
	list := make([]Start, len(order))
	for place := range len(order) {
		list[place] = Start{Bib: f[order[place]].Bib, Time: place * interval}
	}
	return list, api.OK
}

// checkResults returns the errors of results and rules.
func checkResults(l []Result, r Rules) api.Errno {
	if len(l) > MaxSkiers {
		return api.ErrCount
	}
	allowed := func(x Result) bool { return within(x.Bib, 1, MaxBib) && within(x.Time, 0, MaxTime) }
	if !every(l, allowed) || !within(r.Unit, 1, MaxUnit) || !within(r.Limit, 0, MaxTime) {
		return api.ErrRange
	}
	if twice(l, func(x Result) int { return x.Bib }) {
		return api.ErrTwice
	}
	return api.OK
}

// Deficits returns the deficits of results.
func Deficits(l []Result, r Rules) ([]int, api.Errno) {
	if e := checkResults(l, r); e != api.OK {
		return nil, e
	}
	best := MaxTime
	for _, x := range l {
		best = min(best, x.Time)
	}
	deficits := make([]int, len(l))
	for i, x := range l {
		late := x.Time - best
		deficits[i] = min(late-late%r.Unit, r.Limit)
	}
	return deficits, api.OK
}

// Pursuit returns the start list of a pursuit.
func Pursuit(l []Result, r Rules) ([]Start, api.Errno) {
	deficits, e := Deficits(l, r)
	if e != api.OK {
		return nil, e
	}
	list := make([]Start, len(l))
	times := map[int]int{}
	for i, x := range l {
		list[i] = Start{Bib: x.Bib, Time: deficits[i]}
		times[x.Bib] = x.Time
	}
	slices.SortStableFunc(list, func(a, b Start) int {
		return cmp.Or(cmp.Compare(a.Time, b.Time), cmp.Compare(times[a.Bib], times[b.Bib]))
	})
	return list, api.OK
}
