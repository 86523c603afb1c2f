package rifle

import (
	"iter"

	"klister/api"
)

// known is what is known after some checks: which ones were made, and the offsets
// of the truths that are left. With each of these offsets all rifles without a
// check have all their errors.
type known struct {
	made   [MaxRifles]bool
	offset api.Span
}

// choice is a check, with the least depth of a plan that begins with it.
type choice struct{ rifle, depth int }

// over is the choice if all rifles are decided.
func over() choice { return choice{rifle: None} }

// first returns what is known before the first check.
func (w work) first() known { return known{offset: w.offset} }

// shows reports whether the first check of a rifle can show that it passes, or that it does not.
func (w work) shows(k known, rifle int, pass bool) bool {
	if pass {
		return w.passes(inSome(), rifle, k.offset)
	}
	return !w.passes(inAll(), rifle, k.offset)
}

// after returns what is known after the check of a rifle.
func (w work) after(k known, rifle int, pass bool) known {
	// The offset at which it weighs Least without an error.
	even := w.Rifles[rifle] - w.Least
	k.made[rifle] = true
	if pass {
		k.offset.Hi = min(k.offset.Hi, even+w.Error)
	} else {
		k.offset.Lo = max(k.offset.Lo, even-w.Error+1)
	}
	return k
}

// open yields the rifles that are not decided. No other check shows what is not known.
func (w work) open(k known) iter.Seq[int] {
	return func(yield func(int) bool) {
		for rifle := range w.Rifles {
			if k.made[rifle] || !w.shows(k, rifle, true) || !w.shows(k, rifle, false) {
				continue
			}
			if !yield(rifle) {
				return
			}
		}
	}
}

// choices returns what makes the best choice for what is known. What it has
// chosen once it knows.
func (w work) choices() func(known) choice {
	chosen := map[known]choice{}
	var choose func(known) choice
	choose = func(k known) choice {
		if c, found := chosen[k]; found {
			return c
		}
		best := over()
		for rifle := range w.open(k) {
			passed, failed := choose(w.after(k, rifle, true)), choose(w.after(k, rifle, false))
			depth := 1 + greatest(passed.depth, failed.depth)
			if best == over() || depth < best.depth {
				best = choice{rifle, depth}
			}
		}
		chosen[k] = best
		return best
	}
	return choose
}

// plan returns a plan with the least depth that decides. As it checks no rifle
// twice, it has at most 255 nodes.
func (w work) plan() []Node {
	choose := w.choices()
	var nodes []Node
	var add func(k known) int
	add = func(k known) int {
		c := choose(k)
		if c == over() {
			return None
		}
		at := len(nodes)
		nodes = append(nodes, Node{Rifle: c.rifle})
		pass := add(w.after(k, c.rifle, true))
		fail := add(w.after(k, c.rifle, false))
		nodes[at].Pass, nodes[at].Fail = pass, fail
		return at
	}
	add(w.first())
	return nodes
}

// Fewest returns the least depth of a plan that decides.
func Fewest(s Scale) (int, api.Errno) {
	w, e := begin(s)
	if e != api.OK {
		return 0, e
	}
	return w.choices()(w.first()).depth, api.OK
}

// Plan returns a plan with the least depth that decides.
func Plan(s Scale) ([]Node, api.Errno) {
	w, e := begin(s)
	if e != api.OK {
		return nil, e
	}
	return w.plan(), api.OK
}
