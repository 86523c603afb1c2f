package start

import "klister/api"

// Boxes returns the boxes of a mass start.
func Boxes(f []Skier, lanes int) ([]Box, api.Errno) {
	ranked, e := Ranked(f)
	if e != api.OK {
		return nil, e
	}
	if !within(lanes, 1, MaxLanes) {
		return nil, api.ErrRange
	}
	boxes := make([]Box, len(f))
	for place, i := range ranked {
		boxes[place] = Box{Bib: f[i].Bib, Row: place/lanes + 1, Lane: lane(lanes, place%lanes)}
	}
	return boxes, api.OK
}

// lane returns which lane of a row is taken after so many others of it.
func lane(lanes, taken int) int {
	middle := (lanes + 1) / 2
	if taken%2 == 1 {
		return middle + (taken+1)/2
	}
	return middle - taken/2
}
