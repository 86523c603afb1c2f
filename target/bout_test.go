package target_test

import (
	"math"
	"math/rand"
	"slices"
	"testing"

	"klister/api"
	"klister/target"
)

// three is the bout of the chapter's first example, with so many shots of the skier 0.
func three(shots int) target.Bout {
	return target.Bout{Shots: []int{shots, 5, 5}, Down: []int{5, 5, 3}, Across: []target.Pair{pair(2, 0)}}
}

// wide returns a bout of n skiers, each of whom has fired and has down so
// many, and can have hit all lanes.
func wide(n, shots, down int) target.Bout {
	b := target.Bout{Shots: slices.Repeat([]int{shots}, n), Down: slices.Repeat([]int{down}, n)}
	for i := range n {
		for lane := range n {
			if i != lane {
				b.Across = append(b.Across, pair(i, lane))
			}
		}
	}
	return b
}

func alone(shots, down int) target.Bout {
	return target.Bout{Shots: []int{shots}, Down: []int{down}}
}

func copied(b target.Bout) target.Bout {
	return target.Bout{Shots: slices.Clone(b.Shots), Down: slices.Clone(b.Down), Across: slices.Clone(b.Across)}
}

func equal(a, b target.Bout) bool {
	return slices.Equal(a.Shots, b.Shots) && slices.Equal(a.Down, b.Down) && slices.Equal(a.Across, b.Across)
}

// callsOfBout calls each function that has the errors of Check, with other
// arguments that it refuses too, and returns what each returns, and whether all
// else is zero.
func callsOfBout(b target.Bout) (errors []api.Errno, zero bool) {
	is, e1 := target.Fits(b, make([][]int, 99))
	hits, e2 := target.Assign(b)
	short, e3 := target.Short(b)
	by, e4 := target.Proves(b, []int{1, 0, -1})
	some, e5 := target.Hits(b, -1, 99)
	wasted, e6 := target.Wasted(b)
	crossed, e7 := target.Crossed(b)
	low, high, e8 := target.Reasons(b, 99, -1)
	shown, e9 := target.Shows(b, -1, 0, []int{1, 0, -1})
	zero = !is && len(hits)+len(short)+len(wasted)+len(crossed)+len(low)+len(high) == 0 && by == 0 && some == span(0, 0) && shown == span(0, 0)
	return []api.Errno{target.Check(b), e1, e2, e3, e4, e5, e6, e7, e8, e9}, zero
}

// P3.1: bouts at the ends of what is allowed.
func TestCheckAllows(t *testing.T) {
	for i, b := range []target.Bout{
		three(5), three(0), three(8),
		alone(0, 0), alone(8, 5), alone(0, 5),
		wide(8, 8, 5), wide(8, 0, 0), wide(2, 1, 1),
		{Shots: make([]int, 8), Down: make([]int, 8), Across: []target.Pair{}},
		{Shots: make([]int, 8), Down: make([]int, 8), Across: []target.Pair{pair(0, 7), pair(7, 0)}},
		{Shots: make([]int, 3), Down: make([]int, 3), Across: []target.Pair{pair(0, 2), pair(1, 0), pair(1, 2), pair(2, 0)}},
	} {
		if e := target.Check(b); e != api.OK {
			t.Error(i, e)
		}
	}
}

// P3.1: what is not allowed, and which error is first, in all calls with these errors.
func TestCheckRefuses(t *testing.T) {
	for i, x := range []struct {
		change func(b *target.Bout)
		want   api.Errno
	}{
		{func(b *target.Bout) { *b = target.Bout{} }, api.ErrCount},
		{func(b *target.Bout) { b.Shots, b.Down = []int{}, []int{} }, api.ErrCount},
		{func(b *target.Bout) { b.Shots, b.Down, b.Across = make([]int, 9), make([]int, 9), nil }, api.ErrCount},
		{func(b *target.Bout) { *b = wide(9, 5, 5) }, api.ErrCount},
		{func(b *target.Bout) { b.Down = b.Down[:2] }, api.ErrCount},
		{func(b *target.Bout) { b.Down = nil }, api.ErrCount},
		{func(b *target.Bout) { b.Down = append(b.Down, 0) }, api.ErrCount},
		{func(b *target.Bout) { b.Shots = b.Shots[:2] }, api.ErrCount},
		{func(b *target.Bout) { b.Shots = nil }, api.ErrCount},
		{func(b *target.Bout) { b.Shots[0], b.Down = 9, b.Down[:2] }, api.ErrCount},
		{func(b *target.Bout) { b.Across[0].Skier, b.Down = 9, b.Down[:2] }, api.ErrCount},
		{func(b *target.Bout) { b.Shots[0] = 9 }, api.ErrRange},
		{func(b *target.Bout) { b.Shots[2] = 9 }, api.ErrRange},
		{func(b *target.Bout) { b.Shots[1] = -1 }, api.ErrRange},
		{func(b *target.Bout) { b.Shots[1] = math.MaxInt }, api.ErrRange},
		{func(b *target.Bout) { b.Shots[1] = math.MinInt }, api.ErrRange},
		{func(b *target.Bout) { b.Down[0] = 6 }, api.ErrRange},
		{func(b *target.Bout) { b.Down[2] = 6 }, api.ErrRange},
		{func(b *target.Bout) { b.Down[1] = -1 }, api.ErrRange},
		{func(b *target.Bout) { b.Down[1] = math.MaxInt }, api.ErrRange},
		{func(b *target.Bout) { b.Down[1] = math.MinInt }, api.ErrRange},
		{func(b *target.Bout) { b.Down[2], b.Across[0].Lane = 6, 3 }, api.ErrRange},
		{func(b *target.Bout) { b.Shots[2], b.Across[0].Lane = 9, 2 }, api.ErrRange},
		{func(b *target.Bout) { b.Down[2], b.Across = 6, append(b.Across, b.Across[0]) }, api.ErrRange},
		{func(b *target.Bout) { b.Across[0] = pair(3, 0) }, api.ErrUnknown},
		{func(b *target.Bout) { b.Across[0] = pair(-1, 0) }, api.ErrUnknown},
		{func(b *target.Bout) { b.Across[0] = pair(0, 3) }, api.ErrUnknown},
		{func(b *target.Bout) { b.Across[0] = pair(0, -1) }, api.ErrUnknown},
		{func(b *target.Bout) { b.Across[0] = pair(3, 3) }, api.ErrUnknown},
		{func(b *target.Bout) { b.Across[0] = pair(0, 0) }, api.ErrUnknown},
		{func(b *target.Bout) { b.Across[0] = pair(2, 2) }, api.ErrUnknown},
		{func(b *target.Bout) { b.Across[0] = pair(math.MinInt, math.MaxInt) }, api.ErrUnknown},
		{func(b *target.Bout) { b.Across = append(b.Across, pair(2, 1), pair(2, 2)) }, api.ErrUnknown},
		{func(b *target.Bout) { b.Across = append(b.Across, pair(2, 0), pair(2, 3)) }, api.ErrUnknown},
		{func(b *target.Bout) { b.Across = append(b.Across, pair(0, 1), pair(1, 1)) }, api.ErrUnknown},
		{func(b *target.Bout) { b.Across = append(b.Across, pair(2, 0)) }, api.ErrOrder},
		{func(b *target.Bout) { b.Across = append(b.Across, pair(0, 2)) }, api.ErrOrder},
		{func(b *target.Bout) { b.Across = append(b.Across, pair(1, 2)) }, api.ErrOrder},
		{func(b *target.Bout) { b.Across = []target.Pair{pair(2, 1), pair(2, 0)} }, api.ErrOrder},
		{func(b *target.Bout) { b.Across = []target.Pair{pair(0, 1), pair(1, 0), pair(1, 2), pair(1, 0)} }, api.ErrOrder},
		{func(b *target.Bout) { b.Across = []target.Pair{pair(1, 2), pair(2, 0), pair(0, 1)} }, api.ErrOrder},
	} {
		// A bout without an assignment: that is told later than all else.
		b := three(2)
		x.change(&b)
		errors, zero := callsOfBout(b)
		if !zero || slices.ContainsFunc(errors, func(e api.Errno) bool { return e != x.want }) {
			t.Error(i, errors, zero, x.want)
		}
	}
}

// P3.1: which tables are assignments.
func TestFits(t *testing.T) {
	m := math.MaxInt
	for i, x := range []struct {
		b    target.Bout
		hits [][]int
		is   bool
		e    api.Errno
	}{
		{three(5), [][]int{{5, 0, 0}, {0, 5, 0}, {0, 0, 3}}, true, api.OK},
		{three(5), [][]int{{4, 0, 0}, {0, 5, 0}, {1, 0, 3}}, true, api.OK},
		{three(5), [][]int{{3, 0, 0}, {0, 5, 0}, {2, 0, 3}}, true, api.OK},
		{three(5), [][]int{{2, 0, 0}, {0, 5, 0}, {3, 0, 3}}, false, api.OK},
		{three(4), [][]int{{5, 0, 0}, {0, 5, 0}, {0, 0, 3}}, false, api.OK},
		{three(5), [][]int{{4, 0, 0}, {1, 5, 0}, {0, 0, 3}}, false, api.OK},
		{three(5), [][]int{{5, 0, 0}, {0, 4, 1}, {0, 0, 3}}, false, api.OK},
		{three(8), [][]int{{5, 0, 1}, {0, 5, 0}, {0, 0, 2}}, false, api.OK},
		{three(5), [][]int{{4, 0, 0}, {0, 5, 0}, {0, 0, 3}}, false, api.OK},
		{three(6), [][]int{{5, 0, 0}, {0, 5, 0}, {1, 0, 3}}, false, api.OK},
		{three(5), [][]int{{5, 0, 0}, {0, 5, 0}, {0, 0, 4}}, false, api.OK},
		{three(8), [][]int{{6, 0, 0}, {0, 5, 0}, {-1, 0, 3}}, false, api.OK},
		{three(5), [][]int{{5, -1, 0}, {0, 6, 0}, {0, 0, 3}}, false, api.OK},
		{wide(2, 2, 1), [][]int{{2, -1}, {-1, 2}}, false, api.OK},
		{wide(2, 2, 1), [][]int{{0, 1}, {1, 0}}, true, api.OK},
		{wide(2, 1, 1), [][]int{{1, 1}, {0, 0}}, false, api.OK},
		{wide(2, 2, 1), [][]int{{1, 1}, {0, 0}}, true, api.OK},
		{alone(8, 5), [][]int{{5}}, true, api.OK},
		{alone(8, 5), [][]int{{4}}, false, api.OK},
		{alone(4, 5), [][]int{{5}}, false, api.OK},
		{alone(4, 5), [][]int{{4}}, false, api.OK},
		{alone(0, 0), [][]int{{0}}, true, api.OK},
		// Sums of these numbers would be 0, if they were not too large for an int.
		{wide(4, 0, 0), [][]int{{m, m, 2, 0}, {0, m, m, 2}, {2, 0, m, m}, {m, 2, 0, m}}, false, api.OK},
		{wide(2, 0, 0), [][]int{{math.MinInt, math.MinInt}, {math.MinInt, math.MinInt}}, false, api.OK},
		{three(5), nil, false, api.ErrCount},
		{three(5), [][]int{}, false, api.ErrCount},
		{three(5), [][]int{{5, 0, 0}, {0, 5, 0}}, false, api.ErrCount},
		{three(5), [][]int{{5, 0, 0}, {0, 5, 0}, {0, 0, 3}, {0, 0, 0}}, false, api.ErrCount},
		{three(5), [][]int{{5, 0, 0}, {0, 5, 0}, {0, 0, 3}, {}}, false, api.ErrCount},
		{three(5), [][]int{{5, 0, 0}, {0, 5, 0}, {0, 0}}, false, api.ErrCount},
		{three(5), [][]int{{5, 0, 0}, {0, 5, 0}, {0, 0, 3, 0}}, false, api.ErrCount},
		{three(5), [][]int{{5}, {0, 5, 0}, {0, 0, 3}}, false, api.ErrCount},
		{three(5), [][]int{{-5, 9, 0}, nil, {0, 0, 3}}, false, api.ErrCount},
		{three(2), [][]int{{5, 0, 0}, {0, 5}, {0, 0, 3}}, false, api.ErrCount},
		{alone(5, 5), [][]int{{}}, false, api.ErrCount},
		{alone(5, 5), [][]int{{5}, nil}, false, api.ErrCount},
	} {
		if is, e := target.Fits(x.b, x.hits); is != x.is || e != x.e {
			t.Error(i, is, e)
		}
	}
}

// P3.1: example 2 of the chapter, and other lanes that are short or not.
func TestProves(t *testing.T) {
	cross := target.Bout{Shots: []int{1, 1, 1}, Down: []int{2, 2, 0}, Across: []target.Pair{pair(0, 1), pair(1, 0), pair(2, 0), pair(2, 1)}}
	for i, x := range []struct {
		b     target.Bout
		lanes []int
		want  int
		e     api.Errno
	}{
		{three(2), []int{0, 2}, 1, api.OK},
		{three(2), []int{0, 1, 2}, 1, api.OK},
		{three(1), []int{0, 2}, 2, api.OK},
		{three(0), []int{0, 2}, 3, api.OK},
		{three(0), []int{0}, 0, api.ErrWrong},
		{three(0), []int{2}, 0, api.ErrWrong},
		{three(0), []int{1}, 0, api.ErrWrong},
		{three(0), []int{1, 2}, 0, api.ErrWrong},
		{three(3), []int{0, 2}, 0, api.ErrWrong},
		{three(5), []int{0, 1, 2}, 0, api.ErrWrong},
		{three(0), nil, 0, api.ErrWrong},
		{three(0), []int{}, 0, api.ErrWrong},
		// Whoever can have hit both lanes is counted once.
		{cross, []int{0, 1}, 1, api.OK},
		{cross, []int{0, 1, 2}, 1, api.OK},
		{cross, []int{0}, 0, api.ErrWrong},
		{alone(0, 5), []int{0}, 5, api.OK},
		{alone(4, 5), []int{0}, 1, api.OK},
		{alone(5, 5), []int{0}, 0, api.ErrWrong},
		{three(0), []int{2, 0}, 0, api.ErrOrder},
		{three(0), []int{0, 0, 2}, 0, api.ErrOrder},
		{three(0), []int{0, 2, 2}, 0, api.ErrOrder},
		{three(0), []int{0, 2, 1}, 0, api.ErrOrder},
		{three(0), []int{1, 1}, 0, api.ErrOrder},
		{three(0), []int{0, 2, 3}, 0, api.ErrUnknown},
		{three(0), []int{-1, 0, 2}, 0, api.ErrUnknown},
		{three(0), []int{2, 0, 3}, 0, api.ErrUnknown},
		{three(0), []int{1, 1, -1}, 0, api.ErrUnknown},
		{three(0), []int{math.MinInt, math.MaxInt}, 0, api.ErrUnknown},
	} {
		if got, e := target.Proves(x.b, x.lanes); got != x.want || e != x.e {
			t.Error(i, got, e)
		}
	}
}

// assigned compares Assign and Short of a bout with what must be.
func assigned(t *testing.T, b target.Bout, is bool) {
	hits, e := target.Assign(b)
	fits, f := target.Fits(b, hits)
	short, g := target.Short(b)
	by, h := target.Proves(b, short)
	if is && (e != api.OK || !fits || f != api.OK || g != api.ErrNone || len(short) > 0) {
		t.Fatal("there is an assignment", b, hits, e, fits, f, short, g)
	}
	if !is && (e != api.ErrConflict || len(hits) > 0 || g != api.OK || h != api.OK || by != shortOf(b, short) || by < 1) {
		t.Fatal("there is no assignment", b, hits, e, short, g, by, h)
	}
}

// P3.1: bouts with an assignment, or with lanes that are short.
func TestAssign(t *testing.T) {
	for _, x := range []struct {
		b  target.Bout
		is bool
	}{
		{three(5), true}, {three(4), true}, {three(3), true}, {three(2), false}, {three(0), false},
		{alone(0, 0), true}, {alone(8, 5), true}, {alone(5, 5), true}, {alone(4, 5), false}, {alone(0, 1), false},
		{wide(8, 5, 5), true}, {wide(8, 4, 5), false}, {wide(8, 8, 5), true}, {wide(8, 0, 0), true}, {wide(8, 0, 1), false},
		// A hit is passed on from each lane to the next one.
		{target.Bout{Shots: []int{0, 5, 5, 6}, Down: []int{1, 5, 5, 5}, Across: []target.Pair{pair(1, 0), pair(2, 1), pair(3, 2)}}, true},
		{target.Bout{Shots: []int{0, 5, 5, 5}, Down: []int{1, 5, 5, 5}, Across: []target.Pair{pair(1, 0), pair(2, 1), pair(3, 2)}}, false},
		{target.Bout{Shots: []int{6, 5, 5, 0}, Down: []int{5, 5, 5, 1}, Across: []target.Pair{pair(0, 1), pair(1, 2), pair(2, 3)}}, true},
		{target.Bout{Shots: []int{8, 5, 5, 0}, Down: []int{5, 5, 5, 1}, Across: []target.Pair{pair(0, 1), pair(1, 2)}}, false},
		{target.Bout{Shots: []int{8, 0, 8, 0}, Down: []int{3, 5, 3, 5}, Across: []target.Pair{pair(0, 1), pair(2, 3)}}, true},
		{target.Bout{Shots: []int{8, 0, 8, 0}, Down: []int{3, 5, 4, 5}, Across: []target.Pair{pair(0, 1), pair(2, 3)}}, false},
		{target.Bout{Shots: []int{8, 0, 8, 0}, Down: []int{3, 4, 4, 5}, Across: []target.Pair{pair(0, 1), pair(2, 1), pair(2, 3)}}, false},
	} {
		assigned(t, x.b, x.is)
	}
}

// P3.1: random bouts, of which all assignments are tried, or all sets of lanes.
func TestAssignOfRandomBouts(t *testing.T) {
	g := rand.New(rand.NewSource(1))
	found := map[bool]int{}
	for range 2000 {
		b := wildBout(g, 1+g.Intn(3))
		all := assignments(b)
		assigned(t, b, len(all) > 0)
		found[len(all) > 0]++
		for _, hits := range all {
			if is, e := target.Fits(b, hits); !is || e != api.OK {
				t.Fatal(b, hits, is, e)
			}
		}
	}
	for range 300 {
		b := wildBout(g, 4+g.Intn(5))
		sets := laneSets(len(b.Shots))
		is := !slices.ContainsFunc(sets, func(lanes []int) bool { return shortOf(b, lanes) > 0 })
		assigned(t, b, is)
		found[is]++
		for _, lanes := range sets {
			want, f := shortOf(b, lanes), api.OK
			if want == 0 {
				f = api.ErrWrong
			}
			if by, e := target.Proves(b, lanes); by != want || e != f {
				t.Fatal(b, lanes, by, e)
			}
		}
	}
	if found[true] < 200 || found[false] < 200 {
		t.Error("the bouts are too much alike", found)
	}
}

// P3.1: random tables fit if they are among all assignments.
func TestFitsRandomTables(t *testing.T) {
	g := rand.New(rand.NewSource(2))
	for range 400 {
		n := 1 + g.Intn(3)
		b, hits := someBout(g, n, 0)
		all := assignments(b)
		for range 30 {
			i, lane := g.Intn(n), g.Intn(n)
			hits[i][lane] += g.Intn(3) - 1
			want := slices.ContainsFunc(all, func(x [][]int) bool {
				return slices.EqualFunc(x, hits, func(p, q []int) bool { return slices.Equal(p, q) })
			})
			if is, e := target.Fits(b, hits); is != want || e != api.OK {
				t.Fatal(b, hits, is, e)
			}
		}
	}
}
