package ski

import (
	"slices"

	"klister/api"
)

// limit is the greatest regret with which a wax is good.
type limit int

// good reports whether a wax with a regret is good.
func (m limit) good(regret int) bool { return regret <= int(m) }

// waxing is the regrets of all waxes, with what tells which ones are good.
type waxing struct {
	regrets [][]int
	good    func(regret int) bool
}

// checkLoss returns the errors of a table.
func checkLoss(loss [][]int) api.Errno {
	if !within(len(loss), 1, MaxWaxes) || !within(len(loss[0]), 1, MaxSnows) {
		return api.ErrCount
	}
	if !every(loss, func(row []int) bool { return len(row) == len(loss[0]) }) {
		return api.ErrCount
	}
	allowed := func(n int) bool { return within(n, 0, MaxLoss) }
	if !every(loss, func(row []int) bool { return every(row, allowed) }) {
		return api.ErrRange
	}
	return api.OK
}

// Regrets returns the regrets of all waxes.
func Regrets(loss [][]int) ([][]int, api.Errno) {
	if e := checkLoss(loss); e != api.OK {
		return nil, e
	}
	regrets := make([][]int, len(loss))
	for snow := range loss[0] {
		var column []int
		for _, row := range loss {
			column = append(column, row[snow])
		}
		best := least(MaxLoss, column...)
		for wax, n := range column {
			regrets[wax] = append(regrets[wax], n-best)
		}
	}
	return regrets, api.OK
}

// Wax returns the wax with the least regret, and this.
func Wax(loss [][]int, from, to int) (int, int, api.Errno) {
	regrets, e := Regrets(loss)
	if e != api.OK {
		return 0, 0, e
	}
	if from < 0 || from > to || to >= len(loss[0]) {
		return 0, 0, api.ErrUnknown
	}
	var greatest []int
	for _, row := range regrets {
		greatest = append(greatest, slices.Max(row[from:to+1]))
	}
	regret := least(MaxLoss, greatest...)
	return slices.Index(greatest, regret), regret, api.OK
}

// beginWaxing returns the waxing of a table for a number most, if both are valid.
func beginWaxing(loss [][]int, most int) (waxing, api.Errno) {
	regrets, e := Regrets(loss)
	if e != api.OK {
		return waxing{}, e
	}
	if !within(most, 0, MaxLoss) {
		return waxing{}, api.ErrRange
	}
	return waxing{regrets, limit(most).good}, api.OK
}

// Bag returns the fewest waxes of which one is good on each snow.
func Bag(loss [][]int, most int) ([]int, api.Errno) {
	w, e := beginWaxing(loss, most)
	if e != api.OK {
		return nil, e
	}
	var bags [][]int
	for s := range set(1 << len(loss)) {
		if bag := slices.Collect(s.all()); w.covers(bag) {
			bags = append(bags, bag)
		}
	}
	return shortest(bags), api.OK
}

// covers reports whether on each snow one of some waxes at least is good.
func (w waxing) covers(waxes []int) bool {
	for snow := range w.regrets[0] {
		good := func(wax int) bool { return w.good(w.regrets[wax][snow]) }
		if !slices.ContainsFunc(waxes, good) {
			return false
		}
	}
	return true
}

// Zones returns the fewest zones.
func Zones(loss [][]int, most int) ([]Zone, api.Errno) {
	w, e := beginWaxing(loss, most)
	if e != api.OK {
		return nil, e
	}
	return w.zones(), api.OK
}

// zones returns zones that are as long as they can be.
func (w waxing) zones() []Zone {
	var list []Zone
	for from := 0; from < len(w.regrets[0]); {
		zone := w.zone(from)
		list = append(list, zone)
		from = zone.To + 1
	}
	return list
}

// zone returns the longest zone from a snow on. It has that snow at least, where
// the wax that loses least is good for any number most.
func (w waxing) zone(from int) Zone {
	zone := Zone{From: from}
	for to := from; to < len(w.regrets[0]); to++ {
		wax := w.first(from, to)
		if wax < 0 {
			break
		}
		zone.To, zone.Wax = to, wax
	}
	return zone
}

// first returns the first wax that is good on all snows of a span, or -1.
func (w waxing) first(from, to int) int {
	return slices.IndexFunc(w.regrets, func(row []int) bool { return every(row[from:to+1], w.good) })
}

// Breaks returns as many breaks as there are zones.
func Breaks(loss [][]int, most int) ([]int, api.Errno) {
	w, e := beginWaxing(loss, most)
	if e != api.OK {
		return nil, e
	}
	// A zone can't reach the beginning of the next one, so that no wax is good up to there.
	var breaks []int
	for _, zone := range w.zones() {
		breaks = append(breaks, zone.From)
	}
	return breaks, api.OK
}

// BreaksShow reports whether snows are breaks.
func BreaksShow(loss [][]int, most int, breaks []int) (bool, api.Errno) {
	w, e := beginWaxing(loss, most)
	if e != api.OK {
		return false, e
	}
	if !every(breaks, func(snow int) bool { return within(snow, 0, len(loss[0])-1) }) {
		return false, api.ErrUnknown
	}
	return w.broken(breaks), api.OK
}

// broken reports whether snows are breaks.
func (w waxing) broken(breaks []int) bool {
	if len(breaks) == 0 || !increasing(breaks) {
		return false
	}
	for i := 1; i < len(breaks); i++ {
		if w.first(breaks[i-1], breaks[i]) >= 0 {
			return false
		}
	}
	return true
}
