package wind

import (
	"iter"
	"math"

	"klister/api"
)

// contest is one of clicks, or of choices: of those that are as bad as each other the first one wins.
type contest[T any] struct {
	all iter.Seq[T]
	bad func(T) int
}

// won returns what is least bad, and how bad it is.
func (c contest[T]) won() (T, int) {
	var best T
	least := math.MaxInt
	for x := range c.all {
		if n := c.bad(x); n < least {
			best, least = x, n
		}
	}
	return best, least
}

// every reports whether all elements of a list are good.
func every[T any](list []T, good func(T) bool) bool {
	for _, x := range list {
		if !good(x) {
			return false
		}
	}
	return true
}

// total returns the sum of what is counted of each element of a list.
func total[T any](list []T, count func(T) int) int {
	n := 0
	for _, x := range list {
		n += count(x)
	}
	return n
}

// sum returns the sum of several numbers.
func sum(numbers ...int) int {
	n := 0
	for _, x := range numbers {
		n += x
	}
	return n
}

// within reports whether a number is from lo to hi.
func within(n, lo, hi int) bool { return lo <= n && n <= hi }

// inside reports whether the ends of a span are in order, and both at most as far from 0.
func inside(s api.Span, most int) bool { return -most <= s.Lo && s.Lo <= s.Hi && s.Hi <= most }

// distance returns how far two numbers are apart.
func distance(a, b int) int { return max(a-b, b-a) }

// power returns the product of a number with itself, so many times.
func power(n, times int) int {
	product := 1
	for range times {
		product *= n
	}
	return product
}

// ratio returns a fraction of numbers that are not negative, in lowest terms.
func ratio(n, d int) api.Ratio {
	by, rest := d, n
	for rest > 0 {
		by, rest = rest, by%rest
	}
	return api.Ratio{N: n / by, D: d / by}
}
