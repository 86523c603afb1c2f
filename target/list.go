package target

// every reports whether all elements of a list are good.
func every[T any](list []T, good func(T) bool) bool {
	for _, x := range list {
		if !good(x) {
			return false
		}
	}
	return true
}

// increasing reports whether a list is strictly increasing.
func increasing[T any](list []T, compare func(a, b T) int) bool {
	for i := 1; i < len(list); i++ {
		if compare(list[i-1], list[i]) >= 0 {
			return false
		}
	}
	return true
}

// total returns the sum of what is counted of each element of a list.
func total[T any](list []T, count func(T) int) int {
	sum := 0
	for _, x := range list {
		sum += count(x)
	}
	return sum
}

// least returns the least of several numbers.
func least(first int, others ...int) int {
	for _, n := range others {
		first = min(first, n)
	}
	return first
}

// within reports whether a number is from lo to hi.
func within(n, lo, hi int) bool { return lo <= n && n <= hi }

// self is what is counted of a number.
func self(n int) int { return n }
