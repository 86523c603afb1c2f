package chip

import "klister/api"

// maxPoints is how many points there can be: Zero, the clocks and the spots.
const maxPoints = 1 + MaxClocks + MaxSkiers*MaxMats

// bound is the greatest gap from a point to another one that steps allow, and
// the last one of these steps that was taken.
type bound struct {
	most int
	by   Step
}

// work is a race at work. Its steps are taken one after the other: they make the
// bounds less, until one of them would close a chain with a sum less than 0.
type work struct {
	Race
	ways
	points map[point]int
	bounds [maxPoints][maxPoints]bound
	clash  []Step
}

// begin begins the work on a race in which something is asked for that is known
// or not, if all of it is right and there is a truth.
func begin(r Race, known bool) (*work, api.Errno) {
	if e := Check(r); e != api.OK {
		return nil, e
	}
	if !known {
		return nil, api.ErrUnknown
	}
	w := newWork(r)
	if !w.sound() {
		return nil, api.ErrConflict
	}
	return w, api.OK
}

// newWork takes the steps of a valid race.
func newWork(r Race) *work {
	w := &work{Race: r, ways: waysOf(r), points: map[point]int{}}
	for s := range w.steps() {
		// Each point is where a step leads to.
		_, to := w.ends(s)
		if _, found := w.points[to]; !found {
			number := len(w.points)
			w.points[to] = number
		}
	}
	w.open()
	for s := range w.steps() {
		w.take(s)
		if !w.sound() {
			break
		}
	}
	return w
}

// sound reports whether there is a truth.
func (w *work) sound() bool { return len(w.clash) == 0 }

// open sets the bounds before any step is taken. No chain counts nearly as much
// as MaxSum: in the end, when chains lead from each point to each other one, no
// bound is left that takes such a guess, and no clash takes one.
func (w *work) open() {
	for i := range len(w.points) {
		for j := range len(w.points) {
			if i != j {
				w.bounds[i][j].most = MaxSum
			}
		}
	}
}

// take takes a step, over which chains from each point to each other one can
// lead then. If it closes a chain with a sum less than 0 there is a clash instead.
func (w *work) take(s Step) {
	first, last := w.ends(s)
	counts := w.counts(s)
	if w.most(last, first)+counts < 0 {
		w.clash = append(w.chain(last, first), s)
		return
	}
	from, to := w.points[first], w.points[last]
	for i := range len(w.points) {
		before := w.bounds[i][from].most + counts
		if before >= w.bounds[i][to].most {
			continue // then no bound behind the step gets less either
		}
		for j := range len(w.points) {
			if most := before + w.bounds[to][j].most; most < w.bounds[i][j].most {
				w.bounds[i][j] = bound{most, s}
			}
		}
	}
}

// bound returns the bound of the gap from a point to another one.
func (w *work) bound(from, to point) bound { return w.bounds[w.points[from]][w.points[to]] }

// most returns the greatest gap from a point to another one.
func (w *work) most(from, to point) int { return w.bound(from, to).most }

// gap returns the span of the gap from a point to another one.
func (w *work) gap(from, to point) api.Span {
	return api.Span{Lo: -w.most(to, from), Hi: w.most(from, to)}
}

// chain returns a chain from a point to another one whose sum is the greatest
// gap. Following it ends: the bounds before and behind the last step that was
// taken are older than that step, or the whole would be less by newer ones. It
// passes no point twice, since the step made a bound less only where the chain
// without the way around was not as good: so it is not too long for a chain.
func (w *work) chain(from, to point) []Step {
	var chain []Step
	var follow func(from, to point)
	follow = func(from, to point) {
		if from == to {
			return
		}
		by := w.bound(from, to).by
		first, last := w.ends(by)
		follow(from, first)
		chain = append(chain, by)
		follow(last, to)
	}
	follow(from, to)
	return chain
}
