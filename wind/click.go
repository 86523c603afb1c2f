package wind

import "klister/api"

// Chances returns for each shot the chance of each state.
func Chances(r Range) ([][]api.Ratio, api.Errno) {
	w, e := begin(r)
	if e != api.OK {
		return nil, e
	}
	list := make([][]api.Ratio, Shots)
	for k, chances := range w.chances() {
		for state := range w.Drifts {
			list[k] = append(list[k], ratio(chances[state], power(w.Total, k+1)))
		}
	}
	return list, api.OK
}

// Hit returns the chance of a hit.
func Hit(r Range, state, click int) (api.Ratio, api.Errno) {
	w, e := begin(r)
	if e != api.OK {
		return api.Ratio{}, e
	}
	if !w.hasState(state) {
		return api.Ratio{}, api.ErrUnknown
	}
	if !w.hasClick(click) {
		return api.Ratio{}, api.ErrRange
	}
	return ratio(w.hits(w.Drifts[state], click), w.sum), api.OK
}

// Expected returns the misses to be expected with a click.
func Expected(r Range, click int) (api.Ratio, api.Errno) {
	w, e := begin(r)
	if e != api.OK {
		return api.Ratio{}, e
	}
	if !w.hasClick(click) {
		return api.Ratio{}, api.ErrRange
	}
	return w.expected(w.bad()(click)), api.OK
}

// Best returns the click with the fewest misses to be expected, and these.
func Best(r Range) (int, api.Ratio, api.Errno) {
	w, e := begin(r)
	if e != api.OK {
		return 0, api.Ratio{}, e
	}
	click, n := contest[int]{w.clicks(0), w.bad()}.won()
	return click, w.expected(n), api.OK
}

// bad returns what computes how bad a click is for the chances of states: the
// misses to be expected with it, as a whole number.
func (w *work) bad() func(click int) int {
	var often byState
	for k, chances := range w.chances() {
		for state, chance := range chances {
			often[state] += chance * power(w.Total, Shots-1-k)
		}
	}
	return func(click int) int {
		n := 0
		for state, drift := range w.Drifts {
			n += often[state] * w.misses(drift, click)
		}
		return n
	}
}

// expected returns the misses to be expected for which a whole number of bad stands.
func (w *work) expected(n int) api.Ratio { return ratio(n, w.sum*power(w.Total, Shots)) }
