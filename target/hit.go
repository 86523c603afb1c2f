package target

import "klister/api"

// none is no skier.
const none = -1

// Fits reports whether a table is an assignment.
func Fits(b Bout, hits [][]int) (bool, api.Errno) {
	w, e := begin(b)
	if e != api.OK {
		return false, e
	}
	lanes := len(b.Down)
	if len(hits) != len(b.Shots) || !every(hits, func(row []int) bool { return len(row) == lanes }) {
		return false, api.ErrCount
	}
	return w.fits(hits), api.OK
}

// fits reports whether a table, which has a number for each skier and lane, is an assignment.
func (w *work) fits(hits [][]int) bool {
	for skier, row := range hits {
		for lane, n := range row {
			if !within(n, 0, w.most(Pair{Skier: skier, Lane: lane})) {
				return false
			}
		}
		if total(row, self) > w.Shots[skier] {
			return false
		}
	}
	for lane, down := range w.Down {
		if total(hits, func(row []int) int { return row[lane] }) != down {
			return false
		}
	}
	return true
}

// assign finds a hit for each fallen target. If there are not as many, it
// returns lanes that are short, otherwise none.
func (w *work) assign() []int {
	marked := make([]bool, len(w.Down))
	var more func(lane int) bool
	more = func(lane int) bool {
		if marked[lane] {
			return false
		}
		marked[lane] = true
		for skier := range w.Shots {
			if w.reach(skier).has(lane) && (w.free(skier) || w.gives(skier, more)) {
				w.hits[skier][lane]++
				return true
			}
		}
		return false
	}
	for lane, down := range w.Down {
		for range down {
			clear(marked)
			if !more(lane) {
				return lanesOf(marked)
			}
		}
	}
	return nil
}

// lanesOf returns the lanes that are marked. After a search for one more hit
// that fails they are short: all who can have hit them have used all their
// shots, and for nothing but these lanes.
func lanesOf(marked []bool) []int {
	var lanes []int
	for lane, is := range marked {
		if is {
			lanes = append(lanes, lane)
		}
	}
	return lanes
}

// free reports whether a skier has a shot without a hit.
func (w *work) free(skier int) bool {
	return total(w.hits[skier][:], self) < w.Shots[skier]
}

// gives gives up a hit of a skier for whose lane one more hit is found, and
// reports whether there was such a hit.
func (w *work) gives(skier int, more func(lane int) bool) bool {
	for lane := range w.lanes(skier) {
		if w.hits[skier][lane] > 0 && more(lane) {
			w.hits[skier][lane]--
			return true
		}
	}
	return false
}

// possible reports whether there is an assignment.
func (w *work) possible() bool { return len(w.assign()) == 0 }

// begun begins the work on a bout, if it is valid and has an assignment.
func begun(b Bout) (*work, api.Errno) {
	w, e := begin(b)
	if e != api.OK {
		return nil, e
	}
	if !w.possible() {
		return nil, api.ErrConflict
	}
	return w, api.OK
}

// Assign returns an assignment.
func Assign(b Bout) ([][]int, api.Errno) {
	w, e := begun(b)
	if e != api.OK {
		return nil, e
	}
	hits := make([][]int, len(b.Shots))
	for skier := range hits {
		hits[skier] = append(hits[skier], w.hits[skier][:len(b.Down)]...)
	}
	return hits, api.OK
}

// Short returns lanes that are short.
func Short(b Bout) ([]int, api.Errno) {
	w, e := begin(b)
	if e != api.OK {
		return nil, e
	}
	lanes := w.assign()
	if len(lanes) == 0 {
		return nil, api.ErrNone
	}
	return lanes, api.OK
}

// Proves returns by how much lanes are short.
func Proves(b Bout, lanes []int) (int, api.Errno) {
	w, e := begin(b)
	if e != api.OK {
		return 0, e
	}
	if e := b.checkLanes(lanes); e != api.OK {
		return 0, e
	}
	short := w.down(lanes) - w.bound(lanes, none)
	if short <= 0 {
		return 0, api.ErrWrong
	}
	return short, api.OK
}
