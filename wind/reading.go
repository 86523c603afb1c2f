package wind

import "klister/api"

// Drift returns what flags read.
func Drift(flags []api.Span, weights []int) (api.Span, api.Errno) {
	if !within(len(flags), 1, MaxFlags) || len(weights) != len(flags) {
		return api.Span{}, api.ErrCount
	}
	if !every(flags, func(s api.Span) bool { return inside(s, MaxFlag) }) ||
		!every(weights, func(n int) bool { return within(n, 0, MaxSum) }) {
		return api.Span{}, api.ErrRange
	}
	// No weight is negative: a flag that says less never makes the sum greater.
	var read api.Span
	for i, weight := range weights {
		read.Lo += weight * flags[i].Lo
		read.Hi += weight * flags[i].Hi
	}
	return read, api.OK
}

// Zero returns the click with which most impacts would have been hits.
func Zero(r Range, impacts []int) (int, api.Errno) {
	w, e := begin(r)
	if e != api.OK {
		return 0, e
	}
	if len(impacts) > MaxZero {
		return 0, api.ErrCount
	}
	if !every(impacts, func(n int) bool { return within(n, -MaxFlag, MaxFlag) }) {
		return 0, api.ErrRange
	}
	click, _ := contest[int]{w.clicks(0), func(click int) int {
		hit := w.aim(0, click).hits
		return total(impacts, func(impact int) int { return flag(!hit(impact)) })
	}}.won()
	return click, api.OK
}

// flag is 1 if something is so.
func flag(is bool) int {
	if is {
		return 1
	}
	return 0
}
