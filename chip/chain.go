package chip

import "klister/api"

// Chain returns a chain whose sum is the greatest gap.
func Chain(r Race, from, to Spot) ([]Step, api.Errno) {
	w, e := begin(r, r.hasSpot(from) && r.hasSpot(to))
	if e != api.OK {
		return nil, e
	}
	return w.chain(at(from), at(to)), api.OK
}

// Proves returns the sum of a chain.
func Proves(r Race, from, to Spot, chain []Step) (int, api.Errno) {
	if e := Check(r); e != api.OK {
		return 0, e
	}
	if !r.hasSpot(from) || !r.hasSpot(to) {
		return 0, api.ErrUnknown
	}
	w := waysOf(r)
	if e := w.check(chain); e != api.OK {
		return 0, e
	}
	if !w.leads(at(from), at(to), chain) {
		return 0, api.ErrWrong
	}
	return w.sum(chain), api.OK
}

// Clash returns a closed chain that shows that there is no truth.
func Clash(r Race) ([]Step, api.Errno) {
	if e := Check(r); e != api.OK {
		return nil, e
	}
	w := newWork(r)
	if w.sound() {
		return nil, api.ErrNone
	}
	return w.clash, api.OK
}

// Refutes returns the sum of a closed chain.
func Refutes(r Race, chain []Step) (int, api.Errno) {
	if e := Check(r); e != api.OK {
		return 0, e
	}
	w := waysOf(r)
	if e := w.check(chain); e != api.OK {
		return 0, e
	}
	sum := w.sum(chain)
	if !w.closed(chain) || sum >= 0 {
		return 0, api.ErrWrong
	}
	return sum, api.OK
}

// check returns the errors of a list of steps.
func (w ways) check(chain []Step) api.Errno {
	if len(chain) > MaxSteps {
		return api.ErrCount
	}
	if !every(chain, w.has) {
		return api.ErrUnknown
	}
	return api.OK
}

// sum returns what the steps of a chain count, together.
func (w ways) sum(chain []Step) int {
	sum := 0
	for _, s := range chain {
		sum += w.counts(s)
	}
	return sum
}

// leads reports whether steps lead from a point to another one.
func (w ways) leads(from, to point, chain []Step) bool {
	for _, s := range chain {
		first, last := w.ends(s)
		if first != from {
			return false
		}
		from = last
	}
	return from == to
}

// closed reports whether steps are a closed chain.
func (w ways) closed(chain []Step) bool {
	if len(chain) == 0 {
		return false
	}
	first, _ := w.ends(chain[0])
	return w.leads(first, first, chain)
}
