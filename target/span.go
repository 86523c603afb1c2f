package target

import (
	"slices"

	"klister/api"
)

// checkPair returns the errors of a bout, and of a skier and a lane of it.
func checkPair(b Bout, p Pair) api.Errno {
	if e := Check(b); e != api.OK {
		return e
	}
	if !b.has(p) {
		return api.ErrUnknown
	}
	return api.OK
}

// span returns how many hits a pair can have, if there is an assignment.
func (w *work) span(p Pair) api.Span {
	hits := api.Span{Hi: w.most(p)}
	for hits.Lo < hits.Hi && !w.without(p, hits.Lo).possible() {
		hits.Lo++
	}
	for hits.Hi > hits.Lo && !w.without(p, hits.Hi).possible() {
		hits.Hi--
	}
	return hits
}

// aimed begins the work on a bout, if it has a pair, and an assignment.
func aimed(b Bout, p Pair) (*work, api.Errno) {
	if e := checkPair(b, p); e != api.OK {
		return nil, e
	}
	return begun(b)
}

// Hits returns how many targets of a lane a skier has hit.
func Hits(b Bout, skier, lane int) (api.Span, api.Errno) {
	p := Pair{Skier: skier, Lane: lane}
	w, e := aimed(b, p)
	if e != api.OK {
		return api.Span{}, e
	}
	return w.span(p), api.OK
}

// wasted returns how many shots of a skier can have hit no target, if there is
// an assignment. To look for one more hit takes none from any skier without
// another one instead: so a skier who takes all that can be taken, before all
// others, keeps as many hits.
func (w *work) wasted(skier int) api.Span {
	shots := w.Shots[skier]
	hits := least(shots, w.down(slices.Collect(w.lanes(skier))))
	wasted := api.Span{Lo: shots - hits, Hi: shots}
	for wasted.Hi > wasted.Lo && !w.idle(skier, wasted.Hi).possible() {
		wasted.Hi--
	}
	return wasted
}

// Wasted returns how many shots of each skier hit no target.
func Wasted(b Bout) ([]api.Span, api.Errno) {
	w, e := begun(b)
	if e != api.OK {
		return nil, e
	}
	spans := make([]api.Span, len(b.Shots))
	for skier := range spans {
		spans[skier] = w.wasted(skier)
	}
	return spans, api.OK
}

// Crossed returns the pairs of which targets were surely hit.
func Crossed(b Bout) ([]Pair, api.Errno) {
	w, e := begun(b)
	if e != api.OK {
		return nil, e
	}
	var pairs []Pair
	for _, p := range b.Across {
		if w.span(p).Lo > 0 {
			pairs = append(pairs, p)
		}
	}
	return pairs, api.OK
}

// Reasons returns lanes that show both ends of Hits.
func Reasons(b Bout, skier, lane int) (low, high []int, e api.Errno) {
	p := Pair{Skier: skier, Lane: lane}
	w, e := aimed(b, p)
	if e != api.OK {
		return nil, nil, e
	}
	// What makes one hit less, or one more, impossible are lanes that are short
	// without these hits; and these show that there are more, or fewer.
	hits := w.span(p)
	if hits.Lo > 0 {
		low = w.without(p, hits.Lo-1).assign()
	}
	if hits.Hi < w.most(p) {
		high = w.without(p, hits.Hi+1).assign()
	}
	return low, high, api.OK
}

// Shows returns what lanes show.
func Shows(b Bout, skier, lane int, lanes []int) (api.Span, api.Errno) {
	p := Pair{Skier: skier, Lane: lane}
	if e := checkPair(b, p); e != api.OK {
		return api.Span{}, e
	}
	if e := b.checkLanes(lanes); e != api.OK {
		return api.Span{}, e
	}
	w, e := begun(b)
	if e != api.OK {
		return api.Span{}, e
	}
	return w.shows(p, lanes), api.OK
}

// shows returns what lanes show, if there is an assignment.
func (w *work) shows(p Pair, lanes []int) api.Span {
	hits := api.Span{Hi: w.most(p)}
	has := w.reach(p.Skier).has
	down, bound := w.down(lanes), w.bound(lanes, p.Skier)
	switch {
	case !slices.Contains(lanes, p.Lane):
		if slices.ContainsFunc(lanes, has) {
			hits.Hi = least(hits.Hi, bound+w.Shots[p.Skier]-down)
		}
	case every(lanes, func(lane int) bool { return lane == p.Lane || !has(lane) }):
		hits.Lo = max(0, down-bound)
	}
	return hits
}
