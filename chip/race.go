package chip

import "klister/api"

// Check returns the error of a race.
func Check(r Race) api.Errno {
	if !r.counted() {
		return api.ErrCount
	}
	if !r.limited() {
		return api.ErrRange
	}
	if !every(r.Readings, func(x Reading) bool { return r.hasSpot(x.spot()) && r.hasClock(x.Clock) }) {
		return api.ErrUnknown
	}
	return api.OK
}

// counted reports whether the lists of a race have as many elements as they may have.
func (r Race) counted() bool {
	return within(len(r.Starts), 1, MaxSkiers) && len(r.Splits) <= MaxMats-1 &&
		len(r.Clocks) <= MaxClocks && len(r.Readings) <= MaxReadings
}

// limited reports whether all numbers of a race that are not indices are within their limits.
func (r Race) limited() bool {
	isTime := func(n int) bool { return within(n, 0, MaxTime) }
	return every(r.Starts, isTime) &&
		every(r.Splits, func(s api.Span) bool { return inside(s, 0, MaxTime) }) &&
		every(r.Clocks, Clock.limited) &&
		every(r.Readings, func(x Reading) bool { return isTime(x.Time) })
}

// limited reports whether the numbers of a clock are within their limits.
func (c Clock) limited() bool {
	return inside(c.Offset, -MaxOffset, MaxOffset) && within(c.Error, 0, MaxError)
}

// mats returns how many mats there are.
func (r Race) mats() int { return len(r.Splits) + 1 }

// hasMat, hasSpot and hasClock report whether there is a mat, a spot or a clock.
func (r Race) hasMat(mat int) bool { return within(mat, 0, r.mats()-1) }

func (r Race) hasSpot(s Spot) bool { return within(s.Skier, 0, len(r.Starts)-1) && r.hasMat(s.Mat) }

func (r Race) hasClock(clock int) bool { return within(clock, 0, len(r.Clocks)-1) }

// spot returns the spot of a reading.
func (x Reading) spot() Spot { return Spot{Skier: x.Skier, Mat: x.Mat} }

// Missing returns the spots without a reading.
func Missing(r Race) ([]Spot, api.Errno) {
	if e := Check(r); e != api.OK {
		return nil, e
	}
	read := map[Spot]bool{}
	for _, x := range r.Readings {
		read[x.spot()] = true
	}
	var missing []Spot
	for skier := range r.Starts {
		for split := range r.Splits {
			if s := (Spot{Skier: skier, Mat: split + 1}); !read[s] {
				missing = append(missing, s)
			}
		}
	}
	return missing, api.OK
}
