package chip

import "klister/api"

// Range returns the span of the time at a spot.
func Range(r Race, s Spot) (api.Span, api.Errno) {
	w, e := begin(r, r.hasSpot(s))
	if e != api.OK {
		return api.Span{}, e
	}
	return w.gap(zero(), at(s)), api.OK
}

// Gap returns the span of the gap between two spots.
func Gap(r Race, from, to Spot) (api.Span, api.Errno) {
	w, e := begin(r, r.hasSpot(from) && r.hasSpot(to))
	if e != api.OK {
		return api.Span{}, e
	}
	return w.gap(at(from), at(to)), api.OK
}

// Runs returns the span of the offset of a clock.
func Runs(r Race, clock int) (api.Span, api.Errno) {
	w, e := begin(r, r.hasClock(clock))
	if e != api.OK {
		return api.Span{}, e
	}
	return w.gap(of(clock), zero()), api.OK
}
