package wind

import (
	"iter"

	"klister/api"
)

// byState is a number for each state.
type byState [MaxStates]int

// work is a range at work, with the sum of its group.
type work struct {
	Range
	sum int
}

// aim is where a shot at a target goes but for its offset: so far beside the middle.
type aim struct{ radius, beside int }

// hits reports whether the shot hits with an offset.
func (a aim) hits(offset int) bool { return within(a.beside+offset, -a.radius, a.radius) }

// Check returns the error of a range.
func Check(r Range) api.Errno {
	if !r.counted() {
		return api.ErrCount
	}
	if !r.limited() {
		return api.ErrRange
	}
	certain := func(weights []int) bool { return sum(weights...) == r.Total }
	if !within(sum(r.Group...), 1, MaxSum) || !certain(r.First) || !every(r.Next, certain) {
		return api.ErrConflict
	}
	return api.OK
}

// counted reports whether the lists of a range have as many elements as they must have.
func (r Range) counted() bool {
	forAll := func(weights []int) bool { return len(weights) == len(r.Drifts) }
	return within(len(r.Group), 1, MaxGroup) && len(r.Group)%2 == 1 &&
		within(len(r.Drifts), 1, MaxStates) && forAll(r.First) &&
		len(r.Next) == len(r.Drifts) && every(r.Next, forAll)
}

// limited reports whether all numbers of a range are within their limits.
func (r Range) limited() bool {
	weights := func(list []int) bool {
		return every(list, func(n int) bool { return within(n, 0, r.Total) })
	}
	return within(r.Radius, 0, MaxRadius) && within(r.Unit, 1, MaxUnit) &&
		within(r.Clicks, 0, MaxClicks) && within(r.Total, 1, MaxTotal) &&
		every(r.Drifts, func(n int) bool { return within(n, -MaxDrift, MaxDrift) }) &&
		every(r.Group, func(n int) bool { return within(n, 0, MaxSum) }) &&
		weights(r.First) && every(r.Next, weights)
}

// begin begins the work on a range, if it is valid.
func begin(r Range) (*work, api.Errno) {
	if e := Check(r); e != api.OK {
		return nil, e
	}
	return &work{Range: r, sum: sum(r.Group...)}, api.OK
}

// hasState reports whether there is a state.
func (r Range) hasState(state int) bool { return within(state, 0, len(r.Drifts)-1) }

// hasClick reports whether a click is allowed.
func (r Range) hasClick(click int) bool { return within(click, -r.Clicks, r.Clicks) }

// hasOffset reports whether an offset is one of the group.
func (r Range) hasOffset(offset int) bool { return within(offset, -r.reach(), r.reach()) }

// reach returns the greatest offset.
func (r Range) reach() int { return len(r.Group) / 2 }

// clicks yields all clicks: the nearest one to a click first, and the lesser one of two that are as near.
func (r Range) clicks(near int) iter.Seq[int] {
	return func(yield func(int) bool) {
		if !yield(near) {
			return
		}
		for far := 1; far <= 2*r.Clicks; far++ {
			for _, click := range [...]int{near - far, near + far} {
				if r.hasClick(click) && !yield(click) {
					return
				}
			}
		}
	}
}

// aim returns the aim of a shot in a wind with a drift, with a click.
func (r Range) aim(drift, click int) aim { return aim{r.Radius, drift + click*r.Unit} }

// hits returns the weights of the offsets with which a shot hits, together.
func (w *work) hits(drift, click int) int {
	weights := 0
	hit := w.aim(drift, click).hits
	for i, weight := range w.Group {
		if hit(i - w.reach()) {
			weights += weight
		}
	}
	return weights
}

// misses returns the weights of the offsets with which a shot misses, together.
func (w *work) misses(drift, click int) int { return w.sum - w.hits(drift, click) }

// chances returns for each shot the chance of each state, that of the shot k by
// Total to the power of k + 1.
func (w *work) chances() [Shots]byState {
	var all [Shots]byState
	copy(all[0][:], w.First)
	for k := range Shots - 1 {
		for state, next := range w.Next {
			for then, weight := range next {
				all[k+1][then] += all[k][state] * weight
			}
		}
	}
	return all
}
