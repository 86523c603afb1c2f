package rifle

import "klister/api"

// Depth returns the depth of a plan that decides.
func Depth(s Scale, plan []Node) (int, api.Errno) {
	w, e := begin(s)
	if e != api.OK {
		return 0, e
	}
	if len(plan) > MaxNodes {
		return 0, api.ErrCount
	}
	if !w.hasNodes(plan) {
		return 0, api.ErrUnknown
	}
	depth, decides := w.depth(plan)
	if !decides {
		return 0, api.ErrWrong
	}
	return depth, api.OK
}

// hasNodes reports whether all nodes of a plan have a rifle, and lead to later ones.
func (w work) hasNodes(plan []Node) bool {
	for k, n := range plan {
		leads := func(next int) bool { return next == None || within(next, k+1, len(plan)-1) }
		if !within(n.Rifle, 0, len(w.Rifles)-1) || !leads(n.Pass) || !leads(n.Fail) {
			return false
		}
	}
	return true
}

// depth returns the depth of a plan, and whether it decides. It goes all ways
// through the plan: they part only at the first check of a rifle, so that there
// are at most 256 of them.
func (w work) depth(plan []Node) (int, bool) {
	decides := true
	var follow func(next int, k known, passed [MaxRifles]bool) int
	follow = func(next int, k known, passed [MaxRifles]bool) int {
		if next == None {
			decides = decides && w.decided(k)
			return 0
		}
		n, most := plan[next], 0
		for _, pass := range [...]bool{true, false} {
			if k.made[n.Rifle] && pass != passed[n.Rifle] || !w.shows(k, n.Rifle, pass) {
				continue
			}
			passed[n.Rifle] = pass
			most = greatest(most, follow(n.to(pass), w.after(k, n.Rifle, pass), passed))
		}
		return 1 + most
	}
	first := None
	if len(plan) > 0 {
		first = 0
	}
	most := follow(first, w.first(), [MaxRifles]bool{})
	return most, decides
}

// decided reports whether all rifles are decided.
func (w work) decided(k known) bool {
	for range w.open(k) {
		return false
	}
	return true
}

// to returns the node that comes after a check.
func (n Node) to(pass bool) int {
	if pass {
		return n.Pass
	}
	return n.Fail
}
