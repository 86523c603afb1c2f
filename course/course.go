// Package course is layer 1: see shared/doc/01-course.md.
package course

import "klister/api"

// The rules that a course can break.
const (
	Lengths Rule = iota
	Climbs
	Laps
	Widths
	Often
)

// None is no day, and the limits of layer 1.
const (
	None       = -1
	MaxLoops   = 12
	MaxLength  = 20000
	MaxClimb   = 2000
	MaxWide    = 20
	MaxLaps    = 6
	MaxTotal   = 200000
	MaxCourses = 300
	MaxDepth   = 200
	MaxStore   = 1000000
	MaxDays    = 60
	MaxMuch    = 100000
	MaxVolume  = 10000000
)

// Loop is one of a stadium.
type Loop struct{ Length, Climb, Wide int }

// Rules are those of homologation.
type Rules struct {
	Laps               int
	Length, Climb, Lap api.Span
	Wide, Uses         int
}

// Rule is one that a course can break.
type Rule int

// Day is one of a winter.
type Day struct{ Need, Make, Loss api.Span }

// Winter has a store of snow, and days.
type Winter struct {
	Stock, Store int
	Days         []Day
}

// Weather has a number from each span of a winter.
type Weather struct{ Need, Make, Loss []int }

// Proof says from which day on it is reckoned which day can fail.
type Proof struct{ From, Day int }

// Pile is snow that was made on a day.
type Pile struct{ Day, Much int }
