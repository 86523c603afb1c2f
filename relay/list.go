package relay

// every reports whether all elements of a list are good.
func every[T any](list []T, good func(T) bool) bool {
	for _, x := range list {
		if !good(x) {
			return false
		}
	}
	return true
}

// mapped returns what a list has for each element of another one.
func mapped[T, V any](list []T, to func(T) V) []V {
	var result []V
	for _, x := range list {
		result = append(result, to(x))
	}
	return result
}

// twice reports whether a number occurs twice in a list.
func twice(list []int) bool {
	occurs := map[int]bool{}
	for _, n := range list {
		if occurs[n] {
			return true
		}
		occurs[n] = true
	}
	return false
}

// sum returns the sum of several numbers.
func sum(numbers ...int) int {
	total := 0
	for _, n := range numbers {
		total += n
	}
	return total
}

// within reports whether a number is from lo to hi.
func within(n, lo, hi int) bool { return lo <= n && n <= hi }

// allWithin reports whether all numbers of a list are from lo to hi.
func allWithin(list []int, lo, hi int) bool {
	return every(list, func(n int) bool { return within(n, lo, hi) })
}
