package ski

import "klister/api"

// ranking is who is faster than whom: the first ski than the second one. What
// follows from its pairs is in it as well.
type ranking [MaxSkis][MaxSkis]bool

// with returns the ranking with a pair more, and all that follows from it:
// whoever is not slower than the fast one is faster than whoever is not faster than the slow one.
func (r ranking) with(p Pair) ranking {
	after := r
	for a := range MaxSkis {
		for b := range MaxSkis {
			if (a == p.Fast || r[a][p.Fast]) && (b == p.Slow || r[p.Slow][b]) {
				after[a][b] = true
			}
		}
	}
	return after
}

// contradicts reports whether a ski is faster than itself.
func (r ranking) contradicts() bool {
	for a := range MaxSkis {
		if r[a][a] {
			return true
		}
	}
	return false
}

// faster and slower return how many skis are faster than a ski, and slower.
func (r ranking) faster(ski int) int {
	return count(r[:], func(row [MaxSkis]bool) bool { return row[ski] })
}

func (r ranking) slower(ski int) int {
	return count(r[ski][:], func(is bool) bool { return is })
}

// places returns the least and the greatest place of each of the first skis, so
// many: whoever is neither faster nor slower than a ski can be before it or after it.
func (r ranking) places(skis int) []api.Span {
	spans := make([]api.Span, skis)
	for ski := range spans {
		spans[ski] = api.Span{Lo: 1 + r.faster(ski), Hi: skis - r.slower(ski)}
	}
	return spans
}

// allows reports whether a ski can come next in an order that fits, after the
// skis of a set: all that are faster are in the set.
func (r ranking) allows(before set, ski int) bool {
	for fast, row := range r {
		if row[ski] && !before.has(fast) {
			return false
		}
	}
	return true
}
