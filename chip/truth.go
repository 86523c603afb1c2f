package chip

import "klister/api"

// Fits reports whether times and offsets are a truth.
func Fits(r Race, times [][]int, offsets []int) (bool, api.Errno) {
	if e := Check(r); e != api.OK {
		return false, e
	}
	forMats := func(list []int) bool { return len(list) == r.mats() }
	if len(times) != len(r.Starts) || !every(times, forMats) || len(offsets) != len(r.Clocks) {
		return false, api.ErrCount
	}
	small := func(n int) bool { return within(n, -MaxSum, MaxSum) }
	if !every(times, func(list []int) bool { return every(list, small) }) || !every(offsets, small) {
		return false, api.ErrRange
	}
	number := func(p point) int {
		switch p.class {
		case spotClass:
			return times[p.spot.Skier][p.spot.Mat]
		case clockClass:
			return -offsets[p.clock]
		}
		return 0
	}
	return waysOf(r).excess(number) == 0, api.OK
}

// excess returns by how much the greatest of all bounds that are exceeded is, if
// points have some numbers; 0 if none is.
func (w ways) excess(number func(point) int) int {
	var over []int
	for s := range w.steps() {
		from, to := w.ends(s)
		over = append(over, number(to)-number(from)-w.counts(s))
	}
	return greatest(0, over...)
}

// Truth returns a truth.
func Truth(r Race) ([][]int, []int, api.Errno) {
	w, e := begin(r, true)
	if e != api.OK {
		return nil, nil, e
	}
	times, offsets := w.truth(w.latest(zero()))
	return times, offsets, api.OK
}

// Reach returns a truth with the greatest or the least gap.
func Reach(r Race, from, to Spot, most bool) ([][]int, []int, api.Errno) {
	w, e := begin(r, r.hasSpot(from) && r.hasSpot(to))
	if e != api.OK {
		return nil, nil, e
	}
	times, offsets := w.reach(from, most)
	return times, offsets, api.OK
}

// reach returns a truth with the greatest, or with the least gaps from a spot to
// all others: all of them are reached in one.
func (w *work) reach(from Spot, most bool) ([][]int, []int) {
	if most {
		return w.truth(w.latest(at(from)))
	}
	return w.truth(w.earliest(at(from)))
}

// latest and earliest return numbers with which all points come as late, or as
// early, after a point as they can. They exceed no bound: the greatest gap to
// the end of a step is at most that to its beginning, and what it counts.
func (w *work) latest(from point) func(point) int {
	return func(p point) int { return w.most(from, p) }
}

func (w *work) earliest(from point) func(point) int {
	return func(p point) int { return -w.most(p, from) }
}

// truth returns the times and the offsets of a truth by numbers of the points.
func (w *work) truth(number func(point) int) ([][]int, []int) {
	origin := number(zero())
	times := make([][]int, len(w.Starts))
	for skier := range times {
		times[skier] = make([]int, w.mats())
		for mat := range w.mats() {
			times[skier][mat] = number(at(Spot{skier, mat})) - origin
		}
	}
	offsets := make([]int, len(w.Clocks))
	for clock := range offsets {
		offsets[clock] = origin - number(of(clock))
	}
	return times, offsets
}
