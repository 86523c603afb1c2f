package rifle

import (
	"slices"

	"klister/api"
)

// CheckAim reports whether an aim is valid.
func CheckAim(a [][]int) api.Errno {
	if !within(len(a), 1, MaxShots) || !every(a, func(l []int) bool { return within(len(l), 1, MaxWaits) }) {
		return api.ErrCount
	}
	isChance := func(n int) bool { return within(n, 0, MaxChance) }
	if !every(a, func(l []int) bool { return every(l, isChance) }) {
		return api.ErrRange
	}
	if !every(a, settles) {
		return api.ErrOrder
	}
	return api.OK
}

// settles reports whether no breath makes a chance greater, or helps more than the one before it.
func settles(chances []int) bool {
	for k := range len(chances) - 1 {
		if help(chances, k) < 0 || k > 0 && help(chances, k) > help(chances, k-1) {
			return false
		}
	}
	return true
}

// help returns by how much one more breath than some makes a chance less: nothing if there is none more.
func help(chances []int, breaths int) int {
	if breaths+1 >= len(chances) {
		return 0
	}
	return chances[breaths] - chances[breaths+1]
}

// helps returns by how much one more breath helps each shot.
func helps(a [][]int, waits []int) []int {
	all := make([]int, len(a))
	for k, chances := range a {
		all[k] = help(chances, waits[k])
	}
	return all
}

// checkWaits returns the error of an aim, or of waits.
func checkWaits(a [][]int, waits []int) api.Errno {
	if e := CheckAim(a); e != api.OK {
		return e
	}
	if len(waits) != len(a) {
		return api.ErrCount
	}
	for k, breaths := range waits {
		if !within(breaths, 0, len(a[k])-1) {
			return api.ErrRange
		}
	}
	return api.OK
}

// Misses returns the misses of waits.
func Misses(a [][]int, waits []int) (int, api.Errno) {
	if e := checkWaits(a, waits); e != api.OK {
		return 0, e
	}
	return misses(a, waits), api.OK
}

// misses returns the misses of valid waits.
func misses(a [][]int, waits []int) int {
	sum := 0
	for k, breaths := range waits {
		sum += a[k][breaths]
	}
	return sum
}

// checkTotal returns the error of an aim, or of a number of breaths in all.
func checkTotal(a [][]int, total int) api.Errno {
	if e := CheckAim(a); e != api.OK {
		return e
	}
	if total < 0 {
		return api.ErrRange
	}
	return api.OK
}

// Best returns waits with the fewest misses, and these.
func Best(a [][]int, total int) ([]int, int, api.Errno) {
	if e := checkTotal(a, total); e != api.OK {
		return nil, 0, e
	}
	waits := best(a, total)
	return waits, misses(a, waits), api.OK
}

// best returns waits with the fewest misses. Each breath is that which helps most:
// as no later one of its shot helps more, nothing is lost by taking it first.
func best(a [][]int, total int) []int {
	waits := make([]int, len(a))
	for range min(total, together(a)) {
		all := helps(a, waits)
		most := greatest(0, all...)
		if most == 0 {
			break
		}
		waits[slices.Index(all, most)]++
	}
	return waits
}

// together returns how many breaths all shots can wait together.
func together(a [][]int) int {
	sum := 0
	for _, chances := range a {
		sum += len(chances) - 1
	}
	return sum
}

// Curve returns the fewest misses for each number of breaths.
func Curve(a [][]int) ([]int, api.Errno) {
	if e := CheckAim(a); e != api.OK {
		return nil, e
	}
	var curve []int
	for total := range together(a) + 1 {
		curve = append(curve, misses(a, best(a, total)))
	}
	return curve, api.OK
}

// Enough returns the least number of breaths for so many misses.
func Enough(a [][]int, misses int) (int, api.Errno) {
	curve, e := Curve(a)
	if e != api.OK {
		return 0, e
	}
	total := slices.IndexFunc(curve, func(least int) bool { return least <= misses })
	if total < 0 {
		return 0, api.ErrNone
	}
	return total, api.OK
}
