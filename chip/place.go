package chip

import "klister/api"

// Places returns the spans of the places at a mat.
func Places(r Race, mat int) ([]api.Span, api.Errno) {
	w, e := begin(r, r.hasMat(mat))
	if e != api.OK {
		return nil, e
	}
	places := make([]api.Span, len(w.Starts))
	for skier := range places {
		// One truth has all others as late after the skier as they can be, and
		// one has all as early.
		surely := w.before(Spot{skier, mat}, func(gap api.Span) int { return gap.Hi })
		perhaps := w.before(Spot{skier, mat}, func(gap api.Span) int { return gap.Lo })
		places[skier] = api.Span{Lo: 1 + len(surely), Hi: 1 + len(perhaps)}
	}
	return places, api.OK
}

// before returns the skiers who pass a mat before the skier of a spot if the
// gaps from the spot to them are at one end.
func (w *work) before(s Spot, end func(api.Span) int) []int {
	return indices(len(w.Starts), func(other int) bool {
		return end(w.gap(at(s), at(Spot{other, s.Mat}))) < 0
	})
}

// Placed returns a truth in which a skier has the best or the worst place.
func Placed(r Race, s Spot, best bool) ([][]int, []int, api.Errno) {
	w, e := begin(r, r.hasSpot(s))
	if e != api.OK {
		return nil, nil, e
	}
	times, offsets := w.reach(s, best)
	return times, offsets, api.OK
}

// Ahead returns for each skier the others who pass a mat earlier in all truths.
func Ahead(r Race, mat int) ([][]int, api.Errno) {
	w, e := begin(r, r.hasMat(mat))
	if e != api.OK {
		return nil, e
	}
	ahead := make([][]int, len(w.Starts))
	for skier := range ahead {
		ahead[skier] = w.before(Spot{skier, mat}, func(gap api.Span) int { return gap.Hi })
	}
	return ahead, api.OK
}
