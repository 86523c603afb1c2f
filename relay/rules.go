package relay

import "klister/api"

// limit says which number of rules is limited, and how.
type limit struct {
	of     func(Rules) int
	lo, hi int
}

// limits returns the limits of all numbers of rules that are no classes.
func limits() []limit {
	return []limit{
		{func(p Rules) int { return p.Each }, 1, MaxLegs},
		{func(p Rules) int { return p.Laps }, 1, MaxLaps},
		{func(p Rules) int { return p.Spare }, 0, MaxCost},
		{func(p Rules) int { return p.Loop }, 0, MaxLoop},
		{func(p Rules) int { return p.Unused }, 0, MaxUnused},
	}
}

// keptBy reports whether rules keep a limit.
func (l limit) keptBy(p Rules) bool { return within(l.of(p), l.lo, l.hi) }

// CheckRules returns the error of rules.
func CheckRules(p Rules) api.Errno {
	if !within(len(p.Classes), 1, MaxLegs) {
		return api.ErrCount
	}
	if !allWithin(p.Classes, 0, MaxClass) {
		return api.ErrRange
	}
	for _, l := range limits() {
		if !l.keptBy(p) {
			return api.ErrRange
		}
	}
	return api.OK
}
