package relay

import "klister/api"

// Chances returns the places that teams can reach.
func Chances(ends []api.Span) ([]api.Span, api.Errno) {
	if len(ends) > MaxChances {
		return nil, api.ErrCount
	}
	if !every(ends, func(s api.Span) bool { return s.Lo <= s.Hi }) {
		return nil, api.ErrRange
	}
	chances := make([]api.Span, len(ends))
	for team := range ends {
		chances[team] = chance(ends, team)
	}
	return chances, api.OK
}

// chance returns the places that a team can reach: it has the best one if it
// ends as early and all others as late as they can, and the worst one if it is
// the other way round.
func chance(ends []api.Span, team int) api.Span {
	own, places := ends[team], api.Span{Lo: 1, Hi: 1}
	for k, other := range ends {
		if k == team {
			continue
		}
		if other.Hi < own.Lo {
			places.Lo++
		}
		if other.Lo < own.Hi {
			places.Hi++
		}
	}
	return places
}
