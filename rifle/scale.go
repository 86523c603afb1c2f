package rifle

import "klister/api"

// Check reports whether a scale is valid.
func Check(s Scale) api.Errno {
	if len(s.Tests) > MaxTests || !within(len(s.Rifles), 1, MaxRifles) {
		return api.ErrCount
	}
	if !s.limited() {
		return api.ErrRange
	}
	return api.OK
}

// limited reports whether all numbers of a scale are within their limits.
func (s Scale) limited() bool {
	isMass := func(n int) bool { return within(n, 1, MaxMass) }
	isReading := func(n int) bool { return within(n, 0, MaxReading) }
	return within(s.Error, 0, MaxError) && isMass(s.Least) &&
		every(s.Tests, func(t Test) bool { return isMass(t.Mass) && isReading(t.Reading) }) &&
		every(s.Rifles, isReading)
}

// anyOffset returns the span of all offsets.
func anyOffset() api.Span { return around(0, MaxOffset) }

// allowing returns the span of the offsets that allow a test.
func (s Scale) allowing(t Test) api.Span {
	return common(anyOffset(), around(t.Reading-t.Mass, s.Error))
}

// offsets returns the span of the offsets that allow all tests.
func (s Scale) offsets() api.Span {
	all := anyOffset()
	for _, t := range s.Tests {
		all = common(all, s.allowing(t))
	}
	return all
}

// Offset returns the least and the greatest offset.
func Offset(s Scale) (api.Span, api.Errno) {
	w, e := begin(s)
	if e != api.OK {
		return api.Span{}, e
	}
	return w.offset, api.OK
}

// Clash returns two tests that contradict each other.
func Clash(s Scale) (int, int, api.Errno) {
	if e := Check(s); e != api.OK {
		return 0, 0, e
	}
	for i, first := range s.Tests {
		for j, second := range s.Tests[i:] {
			if empty(common(s.allowing(first), s.allowing(second))) {
				return i, i + j, api.OK
			}
		}
	}
	// Where spans have numbers in common two by two, all of them have one.
	return 0, 0, api.ErrNone
}
