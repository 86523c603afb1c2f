package ski

import "iter"

// set is a set of skis, or of waxes: each has a bit.
type set int

// has reports whether something is in a set.
func (s set) has(n int) bool { return s>>n&1 == 1 }

// with returns a set with something more.
func (s set) with(n int) set { return s | 1<<n }

// without returns a set without something that is in it.
func (s set) without(n int) set { return s &^ (1 << n) }

// all yields what is in a set, in increasing order.
func (s set) all() iter.Seq[int] {
	return func(yield func(int) bool) {
		for n := 0; s>>n > 0; n++ {
			if s.has(n) && !yield(n) {
				return
			}
		}
	}
}
