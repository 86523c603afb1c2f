package course

import (
	"iter"
	"slices"

	"klister/api"
)

// route is a course whose indices are those of loops.
type route []int

// marks tells of each rule whether it is broken.
type marks [Often + 1]bool

// Check reports whether a stadium and rules are valid.
func Check(s []Loop, r Rules) api.Errno {
	if e := checkStadium(s); e != api.OK {
		return e
	}
	spans := []api.Span{r.Length, r.Climb, r.Lap}
	bounds := every(spans, func(x api.Span) bool { return bounded(x, MaxTotal) })
	if !bounds || !within(r.Laps, 1, MaxLaps) || !within(r.Wide, 1, MaxWide) || !within(r.Uses, 1, MaxLaps) {
		return api.ErrRange
	}
	return api.OK
}

// checkStadium returns the errors of a stadium.
func checkStadium(s []Loop) api.Errno {
	if !within(len(s), 1, MaxLoops) {
		return api.ErrCount
	}
	if !every(s, allowed) {
		return api.ErrRange
	}
	return api.OK
}

// allowed reports whether the numbers of a loop are.
func allowed(l Loop) bool {
	return within(l.Length, 1, MaxLength) && within(l.Climb, 0, MaxClimb) && within(l.Wide, 1, MaxWide)
}

// checkCourse returns the errors of a course on so many loops.
func checkCourse(loops int, course []int) api.Errno {
	if !within(len(course), 1, MaxLaps) {
		return api.ErrCount
	}
	if !every(course, func(i int) bool { return within(i, 0, loops-1) }) {
		return api.ErrUnknown
	}
	if !slices.IsSorted(course) {
		return api.ErrOrder
	}
	return api.OK
}

// Broken returns the rules that a course breaks.
func Broken(s []Loop, r Rules, course []int) ([]Rule, api.Errno) {
	if e := Check(s, r); e != api.OK {
		return nil, e
	}
	if e := checkCourse(len(s), course); e != api.OK {
		return nil, e
	}
	if len(course) != r.Laps {
		return nil, api.ErrCount
	}
	return judge(s, r, course).rules(), api.OK
}

// judge marks the rules that a course breaks.
func judge(s []Loop, r Rules, c route) marks {
	lengths := mapped(c, func(i int) int { return s[i].Length })
	climbs := mapped(c, func(i int) int { return s[i].Climb })
	var m marks
	m[Lengths] = !inside(sum(lengths...), r.Length)
	m[Climbs] = !inside(sum(climbs...), r.Climb)
	m[Laps] = !every(lengths, func(n int) bool { return inside(n, r.Lap) })
	m[Widths] = !every(c, func(i int) bool { return s[i].Wide >= r.Wide })
	m[Often] = c.repeats(r.Uses)
	return m
}

// repeats reports whether some loop occurs more than so many times.
func (c route) repeats(uses int) bool {
	counts := map[int]int{}
	for _, i := range c {
		counts[i]++
		if counts[i] > uses {
			return true
		}
	}
	return false
}

// has reports whether a loop occurs in a course.
func (c route) has(loop int) bool { return slices.Contains(c, loop) }

// rules returns the rules that are marked, in the order of the constants.
func (m marks) rules() []Rule {
	var list []Rule
	for i, broken := range m {
		if broken {
			list = append(list, Rule(i))
		}
	}
	return list
}

// courses yields the courses of so many loops and laps in lexicographic order.
func courses(loops, laps int) iter.Seq[route] {
	return func(yield func(route) bool) {
		course := make(route, 0, laps)
		var grow func(least int) bool
		grow = func(least int) bool {
			if len(course) == laps {
				// The receiver may keep what it gets, while this list goes on to change.
				return yield(slices.Clone(course))
			}
			for i := least; i < loops; i++ {
				course = append(course, i)
				if !grow(i) {
					return false
				}
				course = course[:len(course)-1]
			}
			return true
		}
		grow(0)
	}
}

// right yields the courses that break no rule.
func right(s []Loop, r Rules) iter.Seq[route] {
	return func(yield func(route) bool) {
		for c := range courses(len(s), r.Laps) {
			if judge(s, r, c) == (marks{}) && !yield(c) {
				return
			}
		}
	}
}

// chosen returns the right courses that are wanted, if they are not too many.
func chosen(s []Loop, r Rules, wanted func(route) bool) ([][]int, api.Errno) {
	var list [][]int
	for c := range right(s, r) {
		if !wanted(c) {
			continue
		}
		if len(list) == MaxCourses {
			return nil, api.ErrLarge
		}
		list = append(list, c)
	}
	return list, api.OK
}

// All returns all right courses.
func All(s []Loop, r Rules) ([][]int, api.Errno) {
	if e := Check(s, r); e != api.OK {
		return nil, e
	}
	return chosen(s, r, func(route) bool { return true })
}

// Yield returns the fewest rules to be given up, and a course.
func Yield(s []Loop, r Rules) ([]Rule, []int, api.Errno) {
	if e := Check(s, r); e != api.OK {
		return nil, nil, e
	}
	// A course that breaks fewer rules than are given up would show that fewer
	// are enough, so the rules looked for are just what the course breaks.
	var rules []Rule
	var first route
	for c := range courses(len(s), r.Laps) {
		broken := judge(s, r, c).rules()
		if first == nil || before(broken, rules) {
			rules, first = broken, c
		}
	}
	return rules, first, api.OK
}

// before reports whether a list of rules is shorter than another one, or as long and before it.
func before(a, b []Rule) bool {
	if len(a) != len(b) {
		return len(a) < len(b)
	}
	return slices.Compare(a, b) < 0
}

// Area returns the area of a course.
func Area(s []Loop, course []int) (int, api.Errno) {
	if e := checkStadium(s); e != api.OK {
		return 0, e
	}
	if e := checkCourse(len(s), course); e != api.OK {
		return 0, e
	}
	return area(s, route(course).has), api.OK
}

// area returns the area of the loops that occur.
func area(s []Loop, occurs func(loop int) bool) int {
	total := 0
	for i, l := range s {
		if occurs(i) {
			total += l.Length * l.Wide
		}
	}
	return total
}

// Snow returns the snow of a course.
func Snow(s []Loop, course []int, depth int) (int, api.Errno) {
	if _, e := Area(s, course); e != api.OK {
		return 0, e
	}
	if !within(depth, 1, MaxDepth) {
		return 0, api.ErrRange
	}
	return snow(s, course, depth), api.OK
}

// snow returns the cubic metres, rounded up, that cover a course so many centimetres deep.
func snow(s []Loop, c route, depth int) int {
	return (area(s, c.has)*depth + 99) / 100
}

// Covered returns the right courses that a volume of snow covers.
func Covered(s []Loop, r Rules, depth, volume int) ([][]int, api.Errno) {
	if e := Check(s, r); e != api.OK {
		return nil, e
	}
	if !within(depth, 1, MaxDepth) || !within(volume, 0, MaxVolume) {
		return nil, api.ErrRange
	}
	return chosen(s, r, func(c route) bool { return snow(s, c, depth) <= volume })
}

// Cheapest returns the right course with the least snow.
func Cheapest(s []Loop, r Rules, depth int) ([]int, int, api.Errno) {
	if e := Check(s, r); e != api.OK {
		return nil, 0, e
	}
	if !within(depth, 1, MaxDepth) {
		return nil, 0, api.ErrRange
	}
	var best route
	least := 0
	for c := range right(s, r) {
		if n := snow(s, c, depth); best == nil || n < least {
			best, least = c, n
		}
	}
	if best == nil {
		return nil, 0, api.ErrNone
	}
	return best, least, api.OK
}
