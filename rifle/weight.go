package rifle

import (
	"slices"

	"klister/api"
)

// work is a scale at work, with the offsets of its truths.
type work struct {
	Scale
	offset api.Span
}

// view is how rifles are looked at: which end of the span of their weights counts.
type view struct{ end func(api.Span) int }

// inAll looks at what is so in all truths, and inSome at what is so in some truth.
func inAll() view { return view{func(s api.Span) int { return s.Lo }} }

func inSome() view { return view{func(s api.Span) int { return s.Hi }} }

// begin begins the work on a scale, if it is valid and there is a truth.
func begin(s Scale) (work, api.Errno) {
	if e := Check(s); e != api.OK {
		return work{}, e
	}
	w := work{s, s.offsets()}
	if empty(w.offset) {
		return work{}, api.ErrConflict
	}
	return w, api.OK
}

// weights returns the span of what a rifle can weigh with some offsets.
func (w work) weights(rifle int, offset api.Span) api.Span {
	read := w.Rifles[rifle]
	return api.Span{Lo: read - offset.Hi - w.Error, Hi: read - offset.Lo + w.Error}
}

// passes reports whether a rifle passes with some offsets, if it is looked at in a view.
func (w work) passes(v view, rifle int, offset api.Span) bool {
	return v.end(w.weights(rifle, offset)) >= w.Least
}

// Weights returns the least and the greatest weight of each rifle.
func Weights(s Scale) ([]api.Span, api.Errno) {
	w, e := begin(s)
	if e != api.OK {
		return nil, e
	}
	all := make([]api.Span, len(w.Rifles))
	for rifle := range all {
		all[rifle] = w.weights(rifle, w.offset)
	}
	return all, api.OK
}

// Passed returns the rifles that pass in all truths.
func Passed(s Scale) ([]int, api.Errno) {
	w, e := begin(s)
	if e != api.OK {
		return nil, e
	}
	return indices(len(w.Rifles), func(rifle int) bool { return w.passes(inAll(), rifle, w.offset) }), api.OK
}

// Open returns the rifles that pass in some truths, and not in all.
func Open(s Scale) ([]int, api.Errno) {
	w, e := begin(s)
	if e != api.OK {
		return nil, e
	}
	return slices.Collect(w.open(w.first())), api.OK
}
