package start_test

import (
	"math"
	"math/rand"
	"slices"
	"testing"

	"klister/api"
	"klister/start"
)

// five is the field of the chapter's first example.
func five() []start.Skier {
	return []start.Skier{{Bib: 1, Nation: 0, Rank: 10}, {Bib: 2, Nation: 0, Rank: 20}, {Bib: 3, Nation: 0, Rank: 30}, {Bib: 4, Nation: 1, Rank: 40}, {Bib: 5, Nation: 2, Rank: 50}}
}

// ofNations returns a field of these nations; the last skier is the best one.
func ofNations(nations ...int) []start.Skier {
	f := make([]start.Skier, len(nations))
	for i, n := range nations {
		f[i] = start.Skier{Bib: i + 1, Nation: n, Rank: len(nations) - i}
	}
	return f
}

// single returns a field of so many skiers, each of whom is alone in a nation
// as far as there are nations.
func single(n int) []start.Skier {
	f := make([]start.Skier, n)
	for i := range f {
		f[i] = start.Skier{Bib: i + 1, Nation: i % 31, Rank: i + 1}
	}
	return f
}

func same[T comparable](a, b [][]T) bool {
	return slices.EqualFunc(a, b, func(x, y []T) bool { return slices.Equal(x, y) })
}

// callsOfField calls each function that has the errors of Check, with other
// arguments that it refuses too, and returns what each returns, and whether all
// else is zero.
func callsOfField(f []start.Skier) (errors []api.Errno, zero bool) {
	ranked, e1 := start.Ranked(f)
	groups, e2 := start.Groups(f, nil)
	draw, e3 := start.Draw(f, nil, nil)
	apart, e4 := start.Apart(f, make([]int, 99))
	order, by, e5 := start.Spread(f)
	bound, e6 := start.Bound(f, nil)
	tight, e7 := start.Tight(f)
	list, e8 := start.Interval(f, make([]int, 99), 0)
	boxes, e9 := start.Boxes(f, 0)
	zero = len(ranked)+len(groups)+len(draw)+len(order)+len(tight)+len(list)+len(boxes) == 0 && apart == 0 && by == 0 && bound == 0
	return []api.Errno{start.Check(f), e1, e2, e3, e4, e5, e6, e7, e8, e9}, zero
}

// P2.1: fields at the ends of what is allowed.
func TestCheckAllows(t *testing.T) {
	for i, change := range []func(f []start.Skier) []start.Skier{
		func(f []start.Skier) []start.Skier { return f },
		func(f []start.Skier) []start.Skier { return f[:1] },
		func(f []start.Skier) []start.Skier { return single(60) },
		func(f []start.Skier) []start.Skier { f[4].Bib = 999; return f },
		func(f []start.Skier) []start.Skier { f[1].Nation = 30; return f },
		func(f []start.Skier) []start.Skier { f[1].Nation = 2; return f },
		func(f []start.Skier) []start.Skier { f[3].Rank = 1; return f },
		func(f []start.Skier) []start.Skier { f[3].Rank = 9999; return f },
		func(f []start.Skier) []start.Skier { f[3].Rank = f[3].Bib; return f },
	} {
		if e := start.Check(change(five())); e != api.OK {
			t.Error(i, e)
		}
	}
}

// P2.1 to P2.4, P2.7: what is not allowed, and which error is first, in all
// calls with the errors of Check.
func TestCheckRefuses(t *testing.T) {
	one := func(n int, change func(s *start.Skier)) []start.Skier {
		f := five()
		change(&f[n])
		return f
	}
	both := func(f []start.Skier) []start.Skier { f[0].Bib = f[1].Bib; return f }
	for i, x := range []struct {
		f    []start.Skier
		want api.Errno
	}{
		{nil, api.ErrCount},
		{[]start.Skier{}, api.ErrCount},
		{single(61), api.ErrCount},
		{make([]start.Skier, 61), api.ErrCount},
		{make([]start.Skier, 2), api.ErrRange},
		{one(0, func(s *start.Skier) { s.Bib = 0 }), api.ErrRange},
		{one(4, func(s *start.Skier) { s.Bib = 1000 }), api.ErrRange},
		{one(4, func(s *start.Skier) { s.Bib = math.MinInt }), api.ErrRange},
		{one(2, func(s *start.Skier) { s.Nation = -1 }), api.ErrRange},
		{one(2, func(s *start.Skier) { s.Nation = 31 }), api.ErrRange},
		{one(2, func(s *start.Skier) { s.Nation = math.MaxInt }), api.ErrRange},
		{one(3, func(s *start.Skier) { s.Rank = 0 }), api.ErrRange},
		{one(3, func(s *start.Skier) { s.Rank = 10000 }), api.ErrRange},
		{one(3, func(s *start.Skier) { s.Rank = math.MinInt }), api.ErrRange},
		{both(one(3, func(s *start.Skier) { s.Rank = 10000 })), api.ErrRange},
		{both(one(4, func(s *start.Skier) { s.Nation = 31 })), api.ErrRange},
		{both(five()), api.ErrTwice},
		{one(4, func(s *start.Skier) { s.Bib = 1 }), api.ErrTwice},
		{one(4, func(s *start.Skier) { s.Rank = 10 }), api.ErrTwice},
		{one(2, func(s *start.Skier) { s.Rank = 20 }), api.ErrTwice},
	} {
		errors, zero := callsOfField(x.f)
		for j, e := range errors {
			if e != x.want {
				t.Error(i, j, e)
			}
		}
		if !zero {
			t.Error(i, "a result beside an error")
		}
	}
}

// P2.1: the best skier has the least rank.
func TestRanked(t *testing.T) {
	for i, x := range []struct {
		f    []start.Skier
		want []int
	}{
		{five(), []int{0, 1, 2, 3, 4}},
		{ofNations(1, 1, 1, 1), []int{3, 2, 1, 0}},
		{[]start.Skier{{Bib: 3, Rank: 9999}, {Bib: 1, Rank: 2}, {Bib: 2, Rank: 10}, {Bib: 999, Rank: 1}}, []int{3, 1, 2, 0}},
		{[]start.Skier{{Bib: 7, Rank: 7}}, []int{0}},
	} {
		if got, e := start.Ranked(x.f); !slices.Equal(got, x.want) || e != api.OK {
			t.Error(i, got, e)
		}
	}
}

// P2.2: example 1 of the chapter, and groups and lots of other fields.
func TestDraw(t *testing.T) {
	mixed := []start.Skier{{Bib: 1, Rank: 30}, {Bib: 2, Rank: 10}, {Bib: 3, Rank: 40}, {Bib: 4, Rank: 20}}
	for i, x := range []struct {
		f           []start.Skier
		sizes, lots []int
		groups      [][]int
		order       []int
	}{
		{five(), []int{2, 3}, []int{7, 3, 9, 5, 8}, [][]int{{0, 1}, {2, 3, 4}}, []int{1, 0, 3, 4, 2}},
		{five(), []int{3, 2}, []int{7, 3, 9, 5, 8}, [][]int{{0, 1, 2}, {3, 4}}, []int{1, 0, 2, 3, 4}},
		{five(), []int{5}, []int{7, 3, 9, 5, 8}, [][]int{{0, 1, 2, 3, 4}}, []int{1, 3, 0, 4, 2}},
		{mixed, []int{1, 3}, []int{9999, 8, 0, 1}, [][]int{{1}, {3, 0, 2}}, []int{1, 2, 3, 0}},
		{mixed, []int{2, 2}, []int{2, 8, 4, 1}, [][]int{{1, 3}, {0, 2}}, []int{3, 1, 0, 2}},
		{mixed, []int{1, 1, 1, 1}, []int{2, 8, 4, 1}, [][]int{{1}, {3}, {0}, {2}}, []int{1, 3, 0, 2}},
		{single(6), []int{1, 1, 1, 1, 1, 1}, []int{6, 5, 4, 3, 2, 1}, [][]int{{0}, {1}, {2}, {3}, {4}, {5}}, []int{0, 1, 2, 3, 4, 5}},
		{single(1), []int{1}, []int{0}, [][]int{{0}}, []int{0}},
	} {
		groups, e := start.Groups(x.f, x.sizes)
		order, g := start.Draw(x.f, x.sizes, x.lots)
		if !same(groups, x.groups) || !slices.Equal(order, x.order) || e != api.OK || g != api.OK {
			t.Error(i, groups, order, e, g)
		}
	}
	if groups, e := start.Groups(single(60), []int{60}); len(groups) != 1 || len(groups[0]) != 60 || e != api.OK {
		t.Error(groups, e)
	}
}

// P2.2: the errors of Groups, in their order, which Draw has too.
func TestGroupsRefuses(t *testing.T) {
	for i, x := range []struct {
		sizes []int
		want  api.Errno
	}{
		{nil, api.ErrCount},
		{[]int{1, 1, 1, 1, 1, 0, 0}, api.ErrCount},
		{make([]int, 1000), api.ErrCount},
		{[]int{5, 0}, api.ErrRange},
		{[]int{0, 4}, api.ErrRange},
		{[]int{6, -1}, api.ErrRange},
		{[]int{61}, api.ErrRange},
		{[]int{math.MaxInt, math.MinInt, 6}, api.ErrRange},
		{[]int{4}, api.ErrConflict},
		{[]int{6}, api.ErrConflict},
		{[]int{2, 2}, api.ErrConflict},
		{[]int{60, 60, 60, 60, 60, 60}, api.ErrConflict},
	} {
		groups, e := start.Groups(five(), x.sizes)
		order, g := start.Draw(five(), x.sizes, nil)
		if len(groups)+len(order) > 0 || e != x.want || g != x.want {
			t.Error(i, groups, order, e, g)
		}
	}
}

// P2.2: the errors of lots, in their order.
func TestDrawRefuses(t *testing.T) {
	for i, x := range []struct {
		lots []int
		want api.Errno
	}{
		{nil, api.ErrCount},
		{[]int{-1, -1, 1, 2}, api.ErrCount},
		{[]int{1, 2, 3, 4, 5, 6}, api.ErrCount},
		{[]int{7, 7, 9, 5, -1}, api.ErrRange},
		{[]int{7, 7, 9, 5, 10000}, api.ErrRange},
		{[]int{math.MinInt, 7, 9, 5, 1}, api.ErrRange},
		{[]int{7, 3, 9, 5, 7}, api.ErrTwice},
		{[]int{0, 0, 9, 5, 7}, api.ErrTwice},
	} {
		// The first and the last skier are in different groups.
		if order, e := start.Draw(five(), []int{2, 3}, x.lots); len(order) > 0 || e != x.want {
			t.Error(i, order, e)
		}
	}
}

// P2.7: example 4 of the chapter, and rows of all widths.
func TestBoxes(t *testing.T) {
	for lanes, want := range map[int][]int{
		1: {1}, 2: {1, 2}, 3: {2, 3, 1}, 4: {2, 3, 1, 4}, 5: {3, 4, 2, 5, 1}, 6: {3, 4, 2, 5, 1, 6},
		20: {10, 11, 9, 12, 8, 13, 7, 14, 6, 15, 5, 16, 4, 17, 3, 18, 2, 19, 1, 20},
	} {
		got, e := start.Boxes(ofNations(make([]int, 47)...), lanes)
		if len(got) != 47 || e != api.OK {
			t.Fatal(lanes, got, e)
		}
		for i, box := range got {
			// The last skier of the field is the best one.
			if box != (start.Box{Bib: 47 - i, Row: 1 + i/lanes, Lane: want[i%lanes]}) {
				t.Error(lanes, i, box)
			}
		}
	}
	want := []start.Box{{Bib: 1, Row: 1, Lane: 3}, {Bib: 2, Row: 1, Lane: 4}, {Bib: 3, Row: 1, Lane: 2}, {Bib: 4, Row: 1, Lane: 5}, {Bib: 5, Row: 1, Lane: 1}, {Bib: 6, Row: 2, Lane: 3}}
	if got, e := start.Boxes(single(6), 5); !slices.Equal(got, want) || e != api.OK {
		t.Error(got, e)
	}
	for _, lanes := range []int{0, -1, 21, math.MaxInt, math.MinInt} {
		if got, e := start.Boxes(five(), lanes); len(got) > 0 || e != api.ErrRange {
			t.Error(lanes, got, e)
		}
	}
}

// P2.7: no two boxes are the same, and rows but the last one are full.
func TestBoxesOfAllLanes(t *testing.T) {
	g := rand.New(rand.NewSource(1))
	for lanes := 1; lanes <= 20; lanes++ {
		f := someField(g, 60, 31)
		boxes, _ := start.Boxes(f, lanes)
		ranked, _ := start.Ranked(f)
		taken := map[[2]int]bool{}
		for i, box := range boxes {
			taken[[2]int{box.Row, box.Lane}] = true
			if box.Bib != f[ranked[i]].Bib || box.Lane < 1 || box.Lane > lanes || box.Row != 1+i/lanes {
				t.Error(lanes, i, box)
			}
		}
		if len(boxes) != 60 || len(taken) != 60 {
			t.Error(lanes, boxes)
		}
	}
}

// P2.1, P2.2, P2.7: arguments are not modified, and results share no memory (R4).
func TestFieldMemory(t *testing.T) {
	f, sizes, lots := ofNations(0, 1, 0, 2, 0), []int{2, 3}, []int{7, 3, 9, 5, 8}
	groups, _ := start.Groups(f, sizes)
	for i := range 2 {
		again, _ := start.Draw(f, sizes, lots)
		if !slices.Equal(again, []int{3, 4, 1, 0, 2}) {
			t.Error(i, again)
		}
		clear(again)
	}
	start.Boxes(f, 3)
	_ = append(groups[0], 99)
	groups[0][0] = 98
	if !slices.Equal(groups[1], []int{2, 1, 0}) {
		t.Error("two groups share memory", groups)
	}
	if !slices.Equal(f, ofNations(0, 1, 0, 2, 0)) || !slices.Equal(sizes, []int{2, 3}) || !slices.Equal(lots, []int{7, 3, 9, 5, 8}) {
		t.Error("an argument is modified", f, sizes, lots)
	}
}
