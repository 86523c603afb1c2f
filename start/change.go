package start

import (
	"cmp"
	"slices"

	"klister/api"
)

// CheckList returns the error of a start list.
func CheckList(l []Start) api.Errno {
	if len(l) > MaxSkiers {
		return api.ErrCount
	}
	if !every(l, func(s Start) bool {
		return within(s.Bib, 1, MaxBib) && within(s.Time, 0, MaxTime) && within(s.Gate, 0, MaxGates)
	}) {
		return api.ErrRange
	}
	if twice(l, func(s Start) int { return s.Bib }) {
		return api.ErrTwice
	}
	if !slices.IsSortedFunc(l, func(a, b Start) int { return cmp.Compare(a.Time, b.Time) }) {
		return api.ErrOrder
	}
	return api.OK
}

// placeOf returns the place of a bib in a start list, -1 if the list has it not.
func placeOf(l []Start, bib int) int {
	return slices.IndexFunc(l, func(s Start) bool { return s.Bib == bib })
}

// Withdraw returns a start list without the start of a bib.
func Withdraw(l []Start, bib int) ([]Start, api.Errno) {
	if e := CheckList(l); e != api.OK {
		return nil, e
	}
	place := placeOf(l, bib)
	if place < 0 {
		return nil, api.ErrUnknown
	}
	return slices.Delete(slices.Clone(l), place, place+1), api.OK
}

// Enter returns a start list with one more start.
func Enter(l []Start, bib, interval int) ([]Start, api.Errno) {
	if e := CheckList(l); e != api.OK {
		return nil, e
	}
	if !within(bib, 1, MaxBib) || !within(interval, 1, MaxTime) {
		return nil, api.ErrRange
	}
	if placeOf(l, bib) >= 0 {
		return nil, api.ErrTwice
	}
	if len(l) == MaxSkiers {
		return nil, api.ErrCount
	}
	time, place := free(l, interval)
	if time > MaxTime {
		return nil, api.ErrLarge
	}
	return slices.Insert(slices.Clone(l), place, Start{Bib: bib, Time: time}), api.OK
}

// free returns the first free time of those that are intervals later than the
// first start, and how many starts are earlier.
func free(l []Start, interval int) (time, place int) {
	if len(l) > 0 {
		time = l[0].Time
	}
search:
	for _, s := range l {
		switch {
		case s.Time == time:
			time += interval
		case s.Time > time:
			break search
		}
		place++
	}
	return time, place
}
