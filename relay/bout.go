package relay

import "klister/api"

// There are five targets and as many rounds for them, and three spare rounds.
const (
	targets   = 5
	maxRounds = 8
)

// Shot returns what came of a bout.
func Shot(rounds []bool) (Shooting, api.Errno) {
	if !within(len(rounds), targets, maxRounds) {
		return Shooting{}, api.ErrCount
	}
	// Behind the fifth target there is a round if all targets fall before the last one.
	if hits(rounds[:len(rounds)-1]) >= targets {
		return Shooting{}, api.ErrWrong
	}
	return shooting(rounds), api.OK
}

// hits returns how many rounds fall a target.
func hits(rounds []bool) int {
	n := 0
	for _, hit := range rounds {
		if hit {
			n++
		}
	}
	return n
}

// shooting returns what came of a bout without an error.
func shooting(rounds []bool) Shooting {
	came := Shooting{Spares: len(rounds) - targets, Loops: targets - hits(rounds)}
	if came.Loops > 0 {
		came.Unused = maxRounds - len(rounds)
	}
	return came
}

// cost returns what a bout adds to the time of a team on the course.
func (p Rules) cost(rounds []bool) int {
	came := shooting(rounds)
	if came == (Shooting{}) {
		return 0
	}
	return sum(p.Spare*came.Spares, p.Loop*came.Loops)
}

// fine returns what the rounds of a bout that were not fired add to the final time.
func (p Rules) fine(rounds []bool) int { return p.Unused * shooting(rounds).Unused }
