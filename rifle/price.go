package rifle

import "klister/api"

// Price returns the least price that holds for waits with the fewest misses.
func Price(a [][]int, total int) (int, api.Errno) {
	if e := checkTotal(a, total); e != api.OK {
		return 0, e
	}
	// A price holds if no breath more is worth it: the best breaths were worth as much.
	return greatest(0, helps(a, best(a, total))...), api.OK
}

// Holds reports whether a price holds for waits.
func Holds(a [][]int, waits []int, price int) (bool, api.Errno) {
	if e := checkWaits(a, waits); e != api.OK {
		return false, e
	}
	if price < 0 {
		return false, api.ErrRange
	}
	for k, chances := range a {
		if !holds(chances, waits[k], price) {
			return false, api.OK
		}
	}
	return true, api.OK
}

// holds reports whether a price holds for the wait of a shot: if neither a breath
// more nor one less is better, no other number is, as further breaths help less.
func holds(chances []int, breaths, price int) bool {
	return help(chances, breaths) <= price && (breaths == 0 || price <= help(chances, breaths-1))
}
