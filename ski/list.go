package ski

import (
	"cmp"
	"slices"
)

// every reports whether all elements of a list are good.
func every[T any](list []T, good func(T) bool) bool {
	for _, x := range list {
		if !good(x) {
			return false
		}
	}
	return true
}

// count returns how many elements of a list are counted.
func count[T any](list []T, counted func(T) bool) int {
	n := 0
	for _, x := range list {
		if counted(x) {
			n++
		}
	}
	return n
}

// total returns the sum of what is measured of each element of a list.
func total[T any](list []T, measure func(T) int) int {
	n := 0
	for _, x := range list {
		n += measure(x)
	}
	return n
}

// increasing reports whether a list is strictly increasing.
func increasing(list []int) bool {
	for i := 1; i < len(list); i++ {
		if list[i-1] >= list[i] {
			return false
		}
	}
	return true
}

// least returns the least of several numbers.
func least(first int, others ...int) int {
	for _, n := range others {
		first = min(first, n)
	}
	return first
}

// within reports whether a number is from lo to hi.
func within(n, lo, hi int) bool { return lo <= n && n <= hi }

// distance returns how far two numbers are apart.
func distance(a, b int) int { return max(a-b, b-a) }

// shortest returns the shortest one of several lists, of these the first one in
// lexicographic order; of no lists it returns none.
func shortest(lists [][]int) []int {
	var best []int
	for i, l := range lists {
		if i == 0 || cmp.Or(cmp.Compare(len(l), len(best)), slices.Compare(l, best)) < 0 {
			best = l
		}
	}
	return best
}
