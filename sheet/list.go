package sheet

import (
	"maps"
	"slices"
)

// every reports whether all elements of a list are good.
func every[T any](list []T, good func(T) bool) bool {
	for _, x := range list {
		if !good(x) {
			return false
		}
	}
	return true
}

// mapped returns what a list has for each element of another one.
func mapped[T, V any](list []T, to func(T) V) []V {
	var result []V
	for _, x := range list {
		result = append(result, to(x))
	}
	return result
}

// inOrder returns what is found by keys, by the least key first.
func inOrder[T any](found map[key]T) []T {
	keys := slices.SortedFunc(maps.Keys(found), key.compare)
	return mapped(keys, func(k key) T { return found[k] })
}

// within reports whether a number is from lo to hi.
func within(n, lo, hi int) bool { return lo <= n && n <= hi }
