package rifle

import (
	"slices"

	"klister/api"
)

// Marks returns as many marks as holds are needed.
func Marks(l []Hold, from, to int) ([]int, api.Errno) {
	all, e := guarding(l, from, to)
	if e != api.OK {
		return nil, e
	}
	marks := make([]int, len(all))
	for k, t := range all {
		// A hold that covers the mark before ends by now: the turn since then reaches farthest.
		marks[k] = t.since
	}
	return marks, api.OK
}

// MarksShow reports whether minutes are marks.
func MarksShow(l []Hold, from, to int, marks []int) (bool, api.Errno) {
	if e := checkSpan(l, from, to); e != api.OK {
		return false, e
	}
	for k, m := range marks {
		if !within(m, from, to-1) {
			return false, api.OK
		}
		// A hold that covers two marks covers two that follow each other.
		if k > 0 && (marks[k-1] >= m || covered(l, marks[k-1], m)) {
			return false, api.OK
		}
	}
	return true, api.OK
}

// covered reports whether a hold covers two minutes.
func covered(l []Hold, first, second int) bool {
	return slices.ContainsFunc(l, func(h Hold) bool { return minute(first).covered(h) && minute(second).covered(h) })
}
