package rifle

import (
	"cmp"
	"slices"

	"klister/api"
)

// minute is the time from a minute to the next one.
type minute int

// covered reports whether a hold covers a minute.
func (m minute) covered(h Hold) bool { return h.From <= int(m) && int(m) < h.To }

// CheckGuard reports whether a guard is valid.
func CheckGuard(l []Hold) api.Errno {
	if !within(len(l), 1, MaxHolds) {
		return api.ErrCount
	}
	if !every(l, Hold.limited) {
		return api.ErrRange
	}
	return api.OK
}

// limited reports whether the numbers of a hold are within their limits.
func (h Hold) limited() bool {
	return within(h.Who, 0, MaxWho) && 0 <= h.From && h.From <= h.To && h.To <= MaxMinute
}

// checkSpan returns the error of a guard, or of a span from a minute to another one.
func checkSpan(l []Hold, from, to int) api.Errno {
	if e := CheckGuard(l); e != api.OK {
		return e
	}
	if from < 0 || to <= from || to > MaxMinute {
		return api.ErrRange
	}
	return api.OK
}

// turn is a hold that is needed, and since when.
type turn struct {
	Hold
	since int
}

// turns follows a guard through a span: each turn is that of the hold that
// reaches farthest. It returns the turns, and the minute at which they end: if
// that is in the span, no hold covers it.
func turns(l []Hold, from, to int) ([]turn, int) {
	order := slices.Clone(l)
	slices.SortStableFunc(order, func(a, b Hold) int { return cmp.Compare(b.To, a.To) })
	var all []turn
	at := from
search:
	for at < to {
		covered := minute(at).covered
		for _, h := range order {
			if covered(h) {
				all = append(all, turn{h, at})
				at = h.To
				continue search
			}
		}
		break
	}
	return all, at
}

// guarding returns the turns that guard a span.
func guarding(l []Hold, from, to int) ([]turn, api.Errno) {
	if e := checkSpan(l, from, to); e != api.OK {
		return nil, e
	}
	all, end := turns(l, from, to)
	if end < to {
		return nil, api.ErrNone
	}
	return all, api.OK
}

// Gap returns the first minute that no hold covers.
func Gap(l []Hold, from, to int) (int, api.Errno) {
	if e := checkSpan(l, from, to); e != api.OK {
		return 0, e
	}
	_, end := turns(l, from, to)
	if end >= to {
		return 0, api.ErrNone
	}
	return end, api.OK
}

// Chain returns the fewest holds by which a span is guarded.
func Chain(l []Hold, from, to int) ([]int, api.Errno) {
	all, e := guarding(l, from, to)
	if e != api.OK {
		return nil, e
	}
	chain := make([]int, len(all))
	for k, t := range all {
		chain[k] = slices.Index(l, t.Hold)
	}
	slices.Sort(chain)
	return chain, api.OK
}

// Guards reports whether a span is guarded by some holds alone.
func Guards(l []Hold, from, to int, chain []int) (bool, api.Errno) {
	if e := checkSpan(l, from, to); e != api.OK {
		return false, e
	}
	if !every(chain, func(k int) bool { return within(k, 0, len(l)-1) }) {
		return false, api.ErrUnknown
	}
	var alone []Hold
	for k, h := range l {
		if slices.Contains(chain, k) {
			alone = append(alone, h)
		}
	}
	_, end := turns(alone, from, to)
	return end >= to, api.OK
}
