package jury

import "klister/api"

// numbers returns the Numbers of the decisions that are asked for.
func (w work) numbers(asked func(Decision) bool) []int {
	return mapped(kept(w.Decisions, asked), Decision.number)
}

// Late returns the protests and claims that are late.
func Late(r Record) ([]int, api.Errno) {
	w, e := begin(r)
	if e != api.OK {
		return nil, e
	}
	return w.numbers(w.late), api.OK
}

// Counting returns all decisions that count.
func Counting(r Record) ([]int, api.Errno) {
	w, e := begin(r)
	if e != api.OK {
		return nil, e
	}
	return w.numbers(w.isCounted), api.OK
}

// Open returns the decisions that are open.
func Open(r Record) ([]int, api.Errno) {
	w, e := begin(r)
	if e != api.OK {
		return nil, e
	}
	return w.numbers(w.isOpen), api.OK
}

// replaced returns a decision, the Replace that gives its much, the Replace
// that gives the much of this, and so on.
func (w work) replaced(d Decision) []Decision {
	chain := []Decision{d}
	for {
		next, is := w.last(d, Replace)
		if !is {
			return chain
		}
		chain = append(chain, next)
		d = next
	}
}

// much returns the much of a decision.
func (w work) much(d Decision) int {
	chain := w.replaced(d)
	return chain[len(chain)-1].Much
}

// Much returns the much of a decision.
func Much(r Record, number int) (int, api.Errno) {
	w, d, e := beginNumber(r, number)
	if e != api.OK {
		return 0, e
	}
	return w.much(d), api.OK
}

// Subject returns the bib of the skier whom a decision concerns.
func Subject(r Record, number int) (int, api.Errno) {
	w, d, e := beginNumber(r, number)
	if e != api.OK {
		return 0, e
	}
	for !d.Kind.trait().own {
		next, is := w.decisions[d.About]
		if !is {
			return 0, api.ErrNone
		}
		d = next
	}
	return d.Bib, api.OK
}
