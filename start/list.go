package start

import (
	"cmp"
	"slices"
)

// every reports whether all elements of a list are good.
func every[T any](list []T, good func(T) bool) bool {
	for _, x := range list {
		if !good(x) {
			return false
		}
	}
	return true
}

// twice reports whether two elements of a list have the same number.
func twice[T any](list []T, number func(T) int) bool {
	occurs := map[int]bool{}
	for _, x := range list {
		n := number(x)
		if occurs[n] {
			return true
		}
		occurs[n] = true
	}
	return false
}

// sorted returns a copy of a list by a number of its elements, the least one first.
func sorted[T any](list []T, number func(T) int) []T {
	result := slices.Clone(list)
	slices.SortStableFunc(result, func(a, b T) int { return cmp.Compare(number(a), number(b)) })
	return result
}

// sum returns the sum of several numbers.
func sum(numbers ...int) int {
	total := 0
	for _, n := range numbers {
		total += n
	}
	return total
}

// within reports whether a number is from lo to hi.
func within(n, lo, hi int) bool { return lo <= n && n <= hi }

// self is the number of an element that is a number.
func self(n int) int { return n }
