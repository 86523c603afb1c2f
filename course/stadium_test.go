package course_test

import (
	"math"
	"math/rand"
	"slices"
	"testing"

	"klister/api"
	"klister/course"
)

// threeLoops and threeLaps are those of the chapter's first example.
func threeLoops() []course.Loop {
	return []course.Loop{{Length: 2000, Climb: 60, Wide: 6}, {Length: 2500, Climb: 90, Wide: 6}, {Length: 3000, Climb: 100, Wide: 6}}
}

func threeLaps() course.Rules {
	return course.Rules{Laps: 3, Length: span(7000, 7500), Climb: span(200, 270), Lap: span(2000, 3000), Wide: 6, Uses: 2}
}

// freeRules are broken by no course with so many laps.
func freeRules(laps int) course.Rules {
	all := span(0, course.MaxTotal)
	return course.Rules{Laps: laps, Length: all, Climb: all, Lap: all, Wide: 1, Uses: course.MaxLaps}
}

// manyLoops returns so many loops, of lengths of which few sums are equal.
func manyLoops(n int) []course.Loop {
	s := make([]course.Loop, n)
	for i := range s {
		s[i] = course.Loop{Length: 1 + (7919*(i+1)*(i+3))%20000, Climb: 10 * i, Wide: 1 + i}
	}
	return s
}

func sameCourses(a, b [][]int) bool {
	return slices.EqualFunc(a, b, func(x, y []int) bool { return slices.Equal(x, y) })
}

// callsOfRules calls each function that has the errors of Check, and returns
// what each returns, and whether all else is zero.
func callsOfRules(s []course.Loop, r course.Rules) (errors []api.Errno, zero bool) {
	broken, e1 := course.Broken(s, r, nil)
	all, e2 := course.All(s, r)
	rules, first, e3 := course.Yield(s, r)
	covered, e4 := course.Covered(s, r, 0, -1)
	best, snow, e5 := course.Cheapest(s, r, 0)
	zero = len(broken) == 0 && len(all) == 0 && len(rules) == 0 && len(first) == 0 && len(covered) == 0 && len(best) == 0 && snow == 0
	return []api.Errno{course.Check(s, r), e1, e2, e3, e4, e5}, zero
}

type change func(s []course.Loop, r *course.Rules) []course.Loop

// loopChange changes a number of the second loop, rulesChange the rules.
func loopChange(f func(l *course.Loop)) change {
	return func(s []course.Loop, r *course.Rules) []course.Loop { f(&s[1]); return s }
}

func rulesChange(f func(r *course.Rules)) change {
	return func(s []course.Loop, r *course.Rules) []course.Loop { f(r); return s }
}

func stadiumChange(now []course.Loop) change {
	return func(s []course.Loop, r *course.Rules) []course.Loop { return now }
}

// P1.1: a stadium and rules at the ends of what is allowed.
func TestCheckAllows(t *testing.T) {
	for i, x := range []change{
		rulesChange(func(r *course.Rules) {}),
		stadiumChange(manyLoops(1)),
		stadiumChange(manyLoops(12)),
		loopChange(func(l *course.Loop) { l.Length = 1 }),
		loopChange(func(l *course.Loop) { l.Length = 20000 }),
		loopChange(func(l *course.Loop) { l.Climb = 0 }),
		loopChange(func(l *course.Loop) { l.Climb = 2000 }),
		loopChange(func(l *course.Loop) { l.Wide = 1 }),
		loopChange(func(l *course.Loop) { l.Wide = 20 }),
		loopChange(func(l *course.Loop) { *l = course.Loop{Length: 2000, Climb: 60, Wide: 6} }),
		rulesChange(func(r *course.Rules) { r.Laps = 1 }),
		rulesChange(func(r *course.Rules) { r.Laps = 6 }),
		rulesChange(func(r *course.Rules) { r.Length = span(0, 0) }),
		rulesChange(func(r *course.Rules) { r.Length = span(0, 200000) }),
		rulesChange(func(r *course.Rules) { r.Length = span(200000, 200000) }),
		rulesChange(func(r *course.Rules) { r.Climb = span(0, 200000) }),
		rulesChange(func(r *course.Rules) { r.Climb = span(5, 5) }),
		rulesChange(func(r *course.Rules) { r.Lap = span(0, 200000) }),
		rulesChange(func(r *course.Rules) { r.Lap = span(0, 0) }),
		rulesChange(func(r *course.Rules) { r.Wide = 1 }),
		rulesChange(func(r *course.Rules) { r.Wide = 20 }),
		rulesChange(func(r *course.Rules) { r.Uses = 1 }),
		rulesChange(func(r *course.Rules) { r.Uses = 6 }),
	} {
		r := threeLaps()
		s := x(threeLoops(), &r)
		if e := course.Check(s, r); e != api.OK {
			t.Error(i, e)
		}
	}
}

// P1.1: what is not allowed, and which error is first, in all calls with these errors.
func TestCheckRefuses(t *testing.T) {
	bad := func(f func(r *course.Rules)) change {
		return func(s []course.Loop, r *course.Rules) []course.Loop { f(r); return nil }
	}
	for i, x := range []struct {
		change change
		want   api.Errno
	}{
		{stadiumChange(nil), api.ErrCount},
		{stadiumChange([]course.Loop{}), api.ErrCount},
		{stadiumChange(manyLoops(13)), api.ErrCount},
		{stadiumChange(make([]course.Loop, 13)), api.ErrCount},
		{bad(func(r *course.Rules) { r.Laps = 0 }), api.ErrCount},
		{bad(func(r *course.Rules) { r.Length = span(1, 0) }), api.ErrCount},
		{stadiumChange(make([]course.Loop, 1)), api.ErrRange},
		{loopChange(func(l *course.Loop) { l.Length = 0 }), api.ErrRange},
		{loopChange(func(l *course.Loop) { l.Length = 20001 }), api.ErrRange},
		{loopChange(func(l *course.Loop) { l.Length = math.MinInt }), api.ErrRange},
		{loopChange(func(l *course.Loop) { l.Climb = -1 }), api.ErrRange},
		{loopChange(func(l *course.Loop) { l.Climb = 2001 }), api.ErrRange},
		{loopChange(func(l *course.Loop) { l.Climb = math.MaxInt }), api.ErrRange},
		{loopChange(func(l *course.Loop) { l.Wide = 0 }), api.ErrRange},
		{loopChange(func(l *course.Loop) { l.Wide = 21 }), api.ErrRange},
		{loopChange(func(l *course.Loop) { l.Wide = math.MinInt }), api.ErrRange},
		{rulesChange(func(r *course.Rules) { r.Laps = 0 }), api.ErrRange},
		{rulesChange(func(r *course.Rules) { r.Laps = 7 }), api.ErrRange},
		{rulesChange(func(r *course.Rules) { r.Laps = math.MaxInt }), api.ErrRange},
		{rulesChange(func(r *course.Rules) { r.Length = span(-1, 5) }), api.ErrRange},
		{rulesChange(func(r *course.Rules) { r.Length = span(5, 200001) }), api.ErrRange},
		{rulesChange(func(r *course.Rules) { r.Length = span(6, 5) }), api.ErrRange},
		{rulesChange(func(r *course.Rules) { r.Length = span(200001, 200001) }), api.ErrRange},
		{rulesChange(func(r *course.Rules) { r.Climb = span(-1, 5) }), api.ErrRange},
		{rulesChange(func(r *course.Rules) { r.Climb = span(5, 200001) }), api.ErrRange},
		{rulesChange(func(r *course.Rules) { r.Climb = span(6, 5) }), api.ErrRange},
		{rulesChange(func(r *course.Rules) { r.Lap = span(-1, 5) }), api.ErrRange},
		{rulesChange(func(r *course.Rules) { r.Lap = span(5, 200001) }), api.ErrRange},
		{rulesChange(func(r *course.Rules) { r.Lap = span(6, 5) }), api.ErrRange},
		{rulesChange(func(r *course.Rules) { r.Lap = span(math.MaxInt, math.MinInt) }), api.ErrRange},
		{rulesChange(func(r *course.Rules) { r.Wide = 0 }), api.ErrRange},
		{rulesChange(func(r *course.Rules) { r.Wide = 21 }), api.ErrRange},
		{rulesChange(func(r *course.Rules) { r.Uses = 0 }), api.ErrRange},
		{rulesChange(func(r *course.Rules) { r.Uses = 7 }), api.ErrRange},
		{rulesChange(func(r *course.Rules) { *r = course.Rules{} }), api.ErrRange},
	} {
		r := threeLaps()
		s := x.change(threeLoops(), &r)
		errors, zero := callsOfRules(s, r)
		for j, e := range errors {
			if e != x.want {
				t.Error(i, j, e)
			}
		}
		if !zero {
			t.Error(i, "a result beside an error")
		}
	}
}

// P1.1: the rules that a course breaks, each alone, and their order.
func TestBroken(t *testing.T) {
	narrow := threeLoops()
	narrow[2].Wide = 5
	short := threeLaps()
	short.Lap = span(2001, 3000)
	long := threeLaps()
	long.Lap = span(2000, 2999)
	none := course.Rules{Laps: 3, Length: span(0, 0), Climb: span(0, 0), Lap: span(0, 0), Wide: 7, Uses: 1}
	exact := course.Rules{Laps: 3, Length: span(7000, 7000), Climb: span(240, 240), Lap: span(2000, 2500), Wide: 6, Uses: 2}
	for i, x := range []struct {
		s    []course.Loop
		r    course.Rules
		c    []int
		want []course.Rule
	}{
		{threeLoops(), threeLaps(), []int{0, 0, 2}, nil},
		{threeLoops(), threeLaps(), []int{0, 1, 2}, nil},
		{threeLoops(), threeLaps(), []int{1, 1, 1}, []course.Rule{course.Often}},
		{threeLoops(), threeLaps(), []int{0, 0, 1}, []course.Rule{course.Lengths}},
		{threeLoops(), threeLaps(), []int{0, 2, 2}, []course.Rule{course.Lengths}},
		{threeLoops(), threeLaps(), []int{2, 2, 2}, []course.Rule{course.Lengths, course.Climbs, course.Often}},
		{threeLoops(), short, []int{0, 1, 2}, []course.Rule{course.Laps}},
		{threeLoops(), long, []int{0, 1, 2}, []course.Rule{course.Laps}},
		{narrow, threeLaps(), []int{0, 1, 2}, []course.Rule{course.Widths}},
		{narrow, threeLaps(), []int{0, 1, 1}, nil},
		{threeLoops(), exact, []int{0, 1, 1}, nil},
		{threeLoops(), exact, []int{0, 0, 2}, []course.Rule{course.Climbs, course.Laps}},
		{threeLoops(), none, []int{0, 1, 1}, []course.Rule{course.Lengths, course.Climbs, course.Laps, course.Widths, course.Often}},
	} {
		if got, e := course.Broken(x.s, x.r, x.c); !slices.Equal(got, x.want) || e != api.OK {
			t.Error(i, got, e)
		}
	}
}

// P1.1: the errors of a course, in their order, after those of Check.
func TestBrokenRefuses(t *testing.T) {
	for i, x := range []struct {
		c    []int
		want api.Errno
	}{
		{nil, api.ErrCount},
		{[]int{}, api.ErrCount},
		{[]int{9, -1, 3, 2, 1, 0, 0}, api.ErrCount},
		{make([]int, 1000), api.ErrCount},
		{[]int{0, 1, 3}, api.ErrUnknown},
		{[]int{2, 1, 3}, api.ErrUnknown},
		{[]int{-1, 1, 2}, api.ErrUnknown},
		{[]int{0, math.MaxInt}, api.ErrUnknown},
		{[]int{math.MinInt}, api.ErrUnknown},
		{[]int{0, 2, 1}, api.ErrOrder},
		{[]int{1, 0}, api.ErrOrder},
		{[]int{0, 1, 0, 1}, api.ErrOrder},
		{[]int{0, 1}, api.ErrCount},
		{[]int{0, 1, 1, 1}, api.ErrCount},
		{[]int{0, 0, 0, 0, 0, 0}, api.ErrCount},
	} {
		if got, e := course.Broken(threeLoops(), threeLaps(), x.c); len(got) > 0 || e != x.want {
			t.Error(i, got, e)
		}
	}
	if _, e := course.Broken(threeLoops(), freeRules(6), make([]int, 6)); e != api.OK {
		t.Error(e)
	}
}

// P1.2: examples 1 and 2 of the chapter.
func TestCoursesOfExamples(t *testing.T) {
	once := threeLaps()
	once.Uses = 1
	exact := once
	exact.Length = span(7000, 7000)
	for i, x := range []struct {
		r     course.Rules
		all   [][]int
		rules []course.Rule
		first []int
	}{
		{threeLaps(), [][]int{{0, 0, 2}, {0, 1, 1}, {0, 1, 2}}, nil, []int{0, 0, 2}},
		{once, [][]int{{0, 1, 2}}, nil, []int{0, 1, 2}},
		{exact, nil, []course.Rule{course.Lengths}, []int{0, 1, 2}},
	} {
		all, e := course.All(threeLoops(), x.r)
		rules, first, f := course.Yield(threeLoops(), x.r)
		if !sameCourses(all, x.all) || !slices.Equal(rules, x.rules) || !slices.Equal(first, x.first) || e != api.OK || f != api.OK {
			t.Error(i, all, rules, first, e, f)
		}
	}
}

// P1.2: each rule may be the only one that has to be given up, and all may.
func TestYieldOfEachRule(t *testing.T) {
	one := []course.Loop{{Length: 100, Climb: 10, Wide: 5}}
	good := course.Rules{Laps: 2, Length: span(200, 200), Climb: span(20, 20), Lap: span(100, 100), Wide: 5, Uses: 2}
	for i, x := range []struct {
		change func(r *course.Rules)
		want   []course.Rule
	}{
		{func(r *course.Rules) {}, nil},
		{func(r *course.Rules) { r.Length = span(0, 199) }, []course.Rule{course.Lengths}},
		{func(r *course.Rules) { r.Climb = span(21, 40) }, []course.Rule{course.Climbs}},
		{func(r *course.Rules) { r.Lap = span(101, 200) }, []course.Rule{course.Laps}},
		{func(r *course.Rules) { r.Wide = 6 }, []course.Rule{course.Widths}},
		{func(r *course.Rules) { r.Uses = 1 }, []course.Rule{course.Often}},
		{func(r *course.Rules) { r.Uses = 1; r.Climb = span(0, 0) }, []course.Rule{course.Climbs, course.Often}},
		{func(r *course.Rules) { *r = course.Rules{Laps: 2, Wide: 6, Uses: 1} }, []course.Rule{course.Lengths, course.Climbs, course.Laps, course.Widths, course.Often}},
	} {
		r := good
		x.change(&r)
		if rules, first, e := course.Yield(one, r); !slices.Equal(rules, x.want) || !slices.Equal(first, []int{0, 0}) || e != api.OK {
			t.Error(i, rules, first, e)
		}
	}
}

// P1.2: fewer rules go before rules that come first, and rules that come first
// before a course that does.
func TestYieldOfSeveral(t *testing.T) {
	s := []course.Loop{{Length: 10, Climb: 1, Wide: 1}, {Length: 20, Climb: 1, Wide: 3}, {Length: 10, Climb: 1, Wide: 2}}
	for i, x := range []struct {
		r     course.Rules
		rules []course.Rule
		first []int
	}{
		{course.Rules{Laps: 1, Length: span(10, 10), Climb: span(1, 1), Lap: span(0, 20), Wide: 3, Uses: 1}, []course.Rule{course.Lengths}, []int{1}},
		{course.Rules{Laps: 1, Length: span(10, 10), Climb: span(0, 0), Lap: span(0, 20), Wide: 2, Uses: 1}, []course.Rule{course.Climbs}, []int{2}},
		{course.Rules{Laps: 1, Length: span(10, 10), Climb: span(1, 1), Lap: span(10, 10), Wide: 3, Uses: 1}, []course.Rule{course.Widths}, []int{0}},
	} {
		if rules, first, e := course.Yield(s, x.r); !slices.Equal(rules, x.rules) || !slices.Equal(first, x.first) || e != api.OK {
			t.Error(i, rules, first, e)
		}
	}
}

// P1.1 to P1.3: small stadiums, against all lists of loops.
func TestSmallStadiums(t *testing.T) {
	g := rand.New(rand.NewSource(1))
	for i := 0; i < 3000; i++ {
		s, r := someStadium(g)
		want := rightOnes(s, r)
		if got, e := course.All(s, r); !sameCourses(got, want) || e != api.OK {
			t.Fatal(s, r, got, want, e)
		}
		rules, first := yields(s, r)
		if a, b, e := course.Yield(s, r); !slices.Equal(a, rules) || !slices.Equal(b, first) || e != api.OK {
			t.Fatal(s, r, a, b, rules, first, e)
		}
		for _, c := range ordered(len(s), r.Laps) {
			if got, e := course.Broken(s, r, c); !slices.Equal(got, breaks(s, r, c)) || e != api.OK {
				t.Fatal(s, r, c, got, e)
			}
		}
		checkSnow(t, s, r, want, 1+g.Intn(200), g.Intn(60))
	}
}

// checkSnow compares what is said of the snow of right courses.
func checkSnow(t *testing.T, s []course.Loop, r course.Rules, right [][]int, depth, volume int) {
	var covered [][]int
	var best []int
	least := 0
	for _, c := range right {
		area, n := snowOf(s, c, depth)
		a, e := course.Area(s, c)
		m, f := course.Snow(s, c, depth)
		if a != area || m != n || e != api.OK || f != api.OK {
			t.Fatal(s, c, depth, a, m, e, f)
		}
		if n <= volume {
			covered = append(covered, c)
		}
		if best == nil || n < least {
			best, least = c, n
		}
	}
	if got, e := course.Covered(s, r, depth, volume); !sameCourses(got, covered) || e != api.OK {
		t.Fatal(s, r, depth, volume, got, covered, e)
	}
	want := api.OK
	if best == nil {
		want = api.ErrNone
	}
	if c, n, e := course.Cheapest(s, r, depth); !slices.Equal(c, best) || n != least || e != want {
		t.Fatal(s, r, depth, c, n, best, least, e)
	}
}

// P1.2: 300 right courses are returned, 301 are too many.
func TestAllLimit(t *testing.T) {
	s, r := manyLoops(12), freeRules(3)
	var sums []int
	for _, c := range ordered(12, 3) {
		sums = append(sums, s[c[0]].Length+s[c[1]].Length+s[c[2]].Length)
	}
	slices.Sort(sums)
	if sums[299] == sums[300] || sums[300] == sums[301] {
		t.Fatal("loops that do not tell 300 courses from 301")
	}
	r.Length = span(0, sums[299])
	if got, e := course.All(s, r); len(got) != 300 || !sameCourses(got, rightOnes(s, r)) || e != api.OK {
		t.Error(len(got), e)
	}
	r.Length = span(0, sums[300])
	if got, e := course.All(s, r); len(got) > 0 || e != api.ErrLarge {
		t.Error(len(got), e)
	}
	if got, e := course.All(s, freeRules(6)); len(got) > 0 || e != api.ErrLarge {
		t.Error(len(got), e)
	}
}

// P1.2 and P1.3: Yield and Cheapest do not depend on how many courses there are.
func TestManyCourses(t *testing.T) {
	s, r := manyLoops(12), freeRules(6)
	if rules, first, e := course.Yield(s, r); len(rules) > 0 || !slices.Equal(first, make([]int, 6)) || e != api.OK {
		t.Error(rules, first, e)
	}
	r.Length = span(200000, 200000)
	if rules, first, e := course.Yield(s, r); !slices.Equal(rules, []course.Rule{course.Lengths}) || !slices.Equal(first, make([]int, 6)) || e != api.OK {
		t.Error(rules, first, e)
	}
	big := make([]course.Loop, 12)
	for i := range big {
		big[i] = course.Loop{Length: 20000, Climb: 2000, Wide: 20}
	}
	big[11] = course.Loop{Length: 19999, Climb: 2000, Wide: 20}
	if c, n, e := course.Cheapest(big, freeRules(6), 200); !slices.Equal(c, []int{11, 11, 11, 11, 11, 11}) || n != 799960 || e != api.OK {
		t.Error(c, n, e)
	}
	if n, e := course.Snow(big, []int{0, 1, 2, 3, 4, 5}, 200); n != 4800000 || e != api.OK {
		t.Error(n, e)
	}
}

// P1.3: example 3 of the chapter.
func TestSnowOfExample(t *testing.T) {
	for i, x := range []struct {
		c          []int
		area, snow int
	}{
		{[]int{0, 0, 2}, 30000, 12000},
		{[]int{0, 1, 1}, 27000, 10800},
		{[]int{0, 1, 2}, 45000, 18000},
	} {
		a, e := course.Area(threeLoops(), x.c)
		n, f := course.Snow(threeLoops(), x.c, 40)
		if a != x.area || n != x.snow || e != api.OK || f != api.OK {
			t.Error(i, a, n, e, f)
		}
	}
	if c, n, e := course.Cheapest(threeLoops(), threeLaps(), 40); !slices.Equal(c, []int{0, 1, 1}) || n != 10800 || e != api.OK {
		t.Error(c, n, e)
	}
}

// P1.3: snow is rounded up, and no more than that.
func TestSnowRounds(t *testing.T) {
	for i, x := range []struct{ length, wide, depth, want int }{
		{1, 1, 1, 1}, {1, 1, 100, 1}, {1, 1, 101, 2}, {1, 1, 200, 2}, {100, 1, 1, 1}, {101, 1, 1, 2}, {199, 1, 1, 2}, {200, 1, 1, 2}, {201, 1, 1, 3}, {50, 2, 200, 200}, {7, 3, 10, 3},
	} {
		s := []course.Loop{{Length: x.length, Wide: x.wide}}
		if n, e := course.Snow(s, []int{0, 0}, x.depth); n != x.want || e != api.OK {
			t.Error(i, n, e)
		}
	}
	// The second loop is smaller, but needs as much snow.
	s := []course.Loop{{Length: 160, Wide: 1}, {Length: 150, Wide: 1}}
	if c, n, e := course.Cheapest(s, freeRules(1), 1); !slices.Equal(c, []int{0}) || n != 2 || e != api.OK {
		t.Error(c, n, e)
	}
}

// P1.3: the errors of Area and Snow, in their order.
func TestAreaRefuses(t *testing.T) {
	bad := threeLoops()
	bad[2].Climb = -1
	for i, x := range []struct {
		s     []course.Loop
		c     []int
		depth int
		want  api.Errno
		snow  api.Errno
	}{
		{nil, nil, 0, api.ErrCount, api.ErrCount},
		{make([]course.Loop, 13), []int{0}, 1, api.ErrCount, api.ErrCount},
		{bad, nil, 0, api.ErrRange, api.ErrRange},
		{bad, []int{0}, 1, api.ErrRange, api.ErrRange},
		{threeLoops(), nil, 0, api.ErrCount, api.ErrCount},
		{threeLoops(), []int{5, 1, 0, 0, 0, 0, 0}, 0, api.ErrCount, api.ErrCount},
		{threeLoops(), []int{1, 0, 3}, 0, api.ErrUnknown, api.ErrUnknown},
		{threeLoops(), []int{-1}, 0, api.ErrUnknown, api.ErrUnknown},
		{threeLoops(), []int{1, 0}, 0, api.ErrOrder, api.ErrOrder},
		{threeLoops(), []int{1}, 0, api.OK, api.ErrRange},
		{threeLoops(), []int{1}, -1, api.OK, api.ErrRange},
		{threeLoops(), []int{1}, 201, api.OK, api.ErrRange},
		{threeLoops(), []int{1}, math.MaxInt, api.OK, api.ErrRange},
		{threeLoops(), []int{1}, 1, api.OK, api.OK},
		{threeLoops(), []int{0, 1, 1, 1, 1, 2}, 200, api.OK, api.OK},
	} {
		a, e := course.Area(x.s, x.c)
		n, f := course.Snow(x.s, x.c, x.depth)
		if e != x.want || f != x.snow || e != api.OK && a != 0 || f != api.OK && n != 0 {
			t.Error(i, a, n, e, f)
		}
	}
}

// P1.3: Covered at the ends of its volume and depth, and its errors.
func TestCovered(t *testing.T) {
	all := [][]int{{0, 0, 2}, {0, 1, 1}, {0, 1, 2}}
	for i, x := range []struct {
		depth, volume int
		want          [][]int
		e             api.Errno
	}{
		{40, 18000, all, api.OK},
		{40, 17999, all[:2], api.OK},
		{40, 12000, all[:2], api.OK},
		{40, 11999, all[1:2], api.OK},
		{40, 10800, all[1:2], api.OK},
		{40, 10799, nil, api.OK},
		{40, 0, nil, api.OK},
		{1, 450, all, api.OK},
		{200, 10000000, all, api.OK},
		{200, 10000001, nil, api.ErrRange},
		{200, math.MaxInt, nil, api.ErrRange},
		{40, -1, nil, api.ErrRange},
		{0, 0, nil, api.ErrRange},
		{201, 0, nil, api.ErrRange},
		{math.MinInt, 0, nil, api.ErrRange},
	} {
		if got, e := course.Covered(threeLoops(), threeLaps(), x.depth, x.volume); !sameCourses(got, x.want) || e != x.e {
			t.Error(i, got, e)
		}
	}
}

// P1.3: 300 courses that are covered are returned, 301 are too many, however
// many right ones there are.
func TestCoveredLimit(t *testing.T) {
	s, r := manyLoops(12), freeRules(3)
	var snows []int
	for _, c := range ordered(12, 3) {
		_, n := snowOf(s, c, 200)
		snows = append(snows, n)
	}
	slices.Sort(snows)
	if snows[299] == snows[300] || snows[300] == snows[301] {
		t.Fatal("loops that do not tell 300 courses from 301")
	}
	if got, e := course.Covered(s, r, 200, snows[299]); len(got) != 300 || e != api.OK {
		t.Error(len(got), e)
	}
	if got, e := course.Covered(s, r, 200, snows[300]); len(got) > 0 || e != api.ErrLarge {
		t.Error(len(got), e)
	}
}

// P1.3: there is no cheapest course if none is right, which is said last.
func TestCheapestRefuses(t *testing.T) {
	r := threeLaps()
	r.Wide = 7
	for i, x := range []struct {
		r     course.Rules
		depth int
		want  api.Errno
	}{
		{r, 1, api.ErrNone},
		{r, 200, api.ErrNone},
		{r, 0, api.ErrRange},
		{r, 201, api.ErrRange},
		{threeLaps(), 0, api.ErrRange},
		{threeLaps(), 201, api.ErrRange},
	} {
		if c, n, e := course.Cheapest(threeLoops(), x.r, x.depth); len(c) > 0 || n != 0 || e != x.want {
			t.Error(i, c, n, e)
		}
	}
}

// P1.7: wider spans break no rule that was not broken.
func TestWiderRules(t *testing.T) {
	g := rand.New(rand.NewSource(2))
	widen := func(s api.Span) api.Span { return span(max(0, s.Lo-g.Intn(3)), s.Hi+g.Intn(3)) }
	for i := 0; i < 2000; i++ {
		s, r := someStadium(g)
		wide := r
		wide.Length, wide.Climb, wide.Lap = widen(r.Length), widen(r.Climb), widen(r.Lap)
		for _, c := range ordered(len(s), r.Laps) {
			before, _ := course.Broken(s, r, c)
			after, e := course.Broken(s, wide, c)
			if e != api.OK || slices.ContainsFunc(after, func(x course.Rule) bool { return !slices.Contains(before, x) }) {
				t.Fatal(s, r, wide, c, before, after, e)
			}
		}
	}
}

// P1.1 to P1.3: arguments are not modified, and results share no memory (R4).
func TestStadiumMemory(t *testing.T) {
	s, r, c := threeLoops(), threeLaps(), []int{0, 1, 1}
	all, _ := course.All(s, r)
	covered, _ := course.Covered(s, r, 40, 20000)
	course.Yield(s, r)
	course.Cheapest(s, r, 40)
	course.Broken(s, r, c)
	course.Snow(s, c, 40)
	if !slices.Equal(s, threeLoops()) || !slices.Equal(c, []int{0, 1, 1}) {
		t.Error("an argument is modified", s, c)
	}
	want := [][]int{{0, 0, 2}, {0, 1, 1}, {0, 1, 2}}
	for _, list := range [][][]int{all, covered} {
		for i, x := range list {
			if !slices.Equal(x, want[i]) {
				t.Error("two courses share memory", list)
			}
			_ = append(x, 9)
			x[0], x[1], x[2] = 7, 7, 7
		}
	}
	if again, e := course.All(s, r); !sameCourses(again, want) || e != api.OK {
		t.Error(again, e)
	}
}
