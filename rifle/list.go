package rifle

import "klister/api"

// every reports whether all elements of a list are good.
func every[T any](list []T, good func(T) bool) bool {
	for _, x := range list {
		if !good(x) {
			return false
		}
	}
	return true
}

// indices returns those of so many elements that are asked for.
func indices(size int, asked func(int) bool) []int {
	var list []int
	for k := range size {
		if asked(k) {
			list = append(list, k)
		}
	}
	return list
}

// greatest returns the greatest of several numbers.
func greatest(first int, others ...int) int {
	for _, n := range others {
		first = max(first, n)
	}
	return first
}

// within reports whether a number is from lo to hi.
func within(n, lo, hi int) bool { return lo <= n && n <= hi }

// around returns the span of the numbers that differ from one by at most so much.
func around(n, most int) api.Span { return api.Span{Lo: n - most, Hi: n + most} }

// common returns the span of the numbers that two spans contain; its Lo is
// greater than its Hi if there are none.
func common(a, b api.Span) api.Span {
	return api.Span{Lo: max(a.Lo, b.Lo), Hi: min(a.Hi, b.Hi)}
}

// empty reports whether a span contains no number.
func empty(s api.Span) bool { return s.Lo > s.Hi }
