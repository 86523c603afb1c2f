package jury

// every reports whether all elements of a list are good.
func every[T any](list []T, good func(T) bool) bool {
	for _, x := range list {
		if !good(x) {
			return false
		}
	}
	return true
}

// kept returns the elements of a list that are asked for.
func kept[T any](list []T, asked func(T) bool) []T {
	var result []T
	for _, x := range list {
		if asked(x) {
			result = append(result, x)
		}
	}
	return result
}

// mapped returns what a list has for each element of another one.
func mapped[T, V any](list []T, to func(T) V) []V {
	var result []V
	for _, x := range list {
		result = append(result, to(x))
	}
	return result
}

// twice reports whether a number occurs twice in a list.
func twice(list []int) bool {
	occurs := map[int]bool{}
	for _, n := range list {
		if occurs[n] {
			return true
		}
		occurs[n] = true
	}
	return false
}

// increasing reports whether a list is strictly increasing.
func increasing(list []int) bool {
	for i := 1; i < len(list); i++ {
		if list[i-1] >= list[i] {
			return false
		}
	}
	return true
}

// greatest returns the greatest of several numbers.
func greatest(first int, others ...int) int {
	for _, n := range others {
		first = max(first, n)
	}
	return first
}

// within reports whether a number is from lo to hi.
func within(n, lo, hi int) bool { return lo <= n && n <= hi }
