package target

import (
	"slices"

	"klister/api"
)

// apart is how far the middles of two neighbouring targets are apart.
const apart = 2500

// radius returns that of the targets.
func (p Position) radius() int {
	if p == Prone {
		return 225
	}
	return 575
}

// checkShots returns the errors of a position and of shots, whatever falls by them.
func checkShots(p Position, shots []Shot) api.Errno {
	if p != Prone && p != Standing {
		return api.ErrRange
	}
	if len(shots) > MaxShots {
		return api.ErrCount
	}
	if !every(shots, func(s Shot) bool {
		return within(s.X, -MaxPlace, MaxPlace) && within(s.Y, -MaxPlace, MaxPlace)
	}) {
		return api.ErrRange
	}
	return api.OK
}

// Falls returns which target falls by each shot.
func Falls(p Position, shots []Shot) ([]int, api.Errno) {
	if e := checkShots(p, shots); e != api.OK {
		return nil, e
	}
	standing := []int{1, 2, 3, 4, 5}
	falls := make([]int, len(shots))
	for i, s := range shots {
		if len(standing) == 0 {
			return nil, api.ErrClosed
		}
		place := slices.IndexFunc(standing, func(number int) bool { return p.hits(s, number) })
		if place >= 0 {
			falls[i] = standing[place]
			standing = slices.Delete(standing, place, place+1)
		}
	}
	return falls, api.OK
}

// hits reports whether a shot hits a target, standing or not.
func (p Position) hits(s Shot, number int) bool {
	x := s.X - (number-1)*apart
	return x*x+s.Y*s.Y <= p.radius()*p.radius()
}

// Loops returns how many targets are standing after all shots.
func Loops(p Position, shots []Shot) (int, api.Errno) {
	falls, e := Falls(p, shots)
	if e != api.OK {
		return 0, e
	}
	missed := func(number int) bool { return number == 0 }
	return Targets - len(slices.DeleteFunc(falls, missed)), api.OK
}

// Spares returns how many spare rounds were fired.
func Spares(p Position, shots []Shot) (int, api.Errno) {
	if _, e := Falls(p, shots); e != api.OK {
		return 0, e
	}
	return max(0, len(shots)-Targets), api.OK
}
