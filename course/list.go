package course

import "klister/api"

// every reports whether all elements of a list are good.
func every[T any](list []T, good func(T) bool) bool {
	for _, x := range list {
		if !good(x) {
			return false
		}
	}
	return true
}

// mapped returns what becomes of each element of a list.
func mapped[T, U any](list []T, become func(T) U) []U {
	result := make([]U, 0, len(list))
	for _, x := range list {
		result = append(result, become(x))
	}
	return result
}

// sum returns the sum of several numbers.
func sum(numbers ...int) int {
	total := 0
	for _, n := range numbers {
		total += n
	}
	return total
}

// within reports whether a number is from lo to hi.
func within(n, lo, hi int) bool { return lo <= n && n <= hi }

// inside reports whether a number is in a span.
func inside(n int, s api.Span) bool { return within(n, s.Lo, s.Hi) }

// bounded reports whether a span has its ends from 0 to most, in order.
func bounded(s api.Span, most int) bool { return 0 <= s.Lo && s.Lo <= s.Hi && s.Hi <= most }
