package target_test

import (
	"cmp"
	"math"
	"math/rand"
	"slices"
	"testing"

	"klister/api"
	"klister/target"
)

// spans returns the spans of all pairs of a bout that has an assignment.
func spans(t *testing.T, b target.Bout) [][]api.Span {
	all := make([][]api.Span, len(b.Shots))
	for i := range all {
		for lane := range b.Down {
			s, e := target.Hits(b, i, lane)
			if e != api.OK {
				t.Fatal(b, i, lane, s, e)
			}
			all[i] = append(all[i], s)
		}
	}
	return all
}

// reasoned checks that reasons show what is so, and all that lanes show.
func reasoned(t *testing.T, b target.Bout, i, lane int, want api.Span) {
	low, high, e := target.Reasons(b, i, lane)
	lows, f := target.Shows(b, i, lane, low)
	highs, g := target.Shows(b, i, lane, high)
	if e != api.OK || f != api.OK || g != api.OK || lows.Lo != want.Lo || highs.Hi != want.Hi {
		t.Fatal(b, i, lane, want, low, lows, high, highs, e, f, g)
	}
	if shownOf(b, i, lane, low) != lows || shownOf(b, i, lane, high) != highs {
		t.Fatal(b, i, lane, low, lows, high, highs)
	}
}

// P3.2 and P3.3: examples 1 and 2 of the chapter, and other bouts.
func TestHits(t *testing.T) {
	chain := target.Bout{Shots: []int{5, 5, 6}, Down: []int{5, 5, 5}, Across: []target.Pair{pair(1, 0), pair(2, 1)}}
	first := target.Bout{Shots: []int{5, 0}, Down: []int{1, 4}, Across: []target.Pair{pair(0, 1)}}
	for i, x := range []struct {
		b           target.Bout
		skier, lane int
		want        api.Span
	}{
		{three(5), 0, 0, span(3, 5)}, {three(5), 1, 1, span(5, 5)}, {three(5), 2, 0, span(0, 2)}, {three(5), 2, 2, span(3, 3)},
		{three(5), 0, 1, span(0, 0)}, {three(5), 0, 2, span(0, 0)}, {three(5), 1, 0, span(0, 0)}, {three(5), 2, 1, span(0, 0)},
		{three(4), 0, 0, span(3, 4)}, {three(4), 2, 0, span(1, 2)}, {three(4), 2, 2, span(3, 3)},
		{three(3), 0, 0, span(3, 3)}, {three(3), 2, 0, span(2, 2)}, {three(3), 2, 2, span(3, 3)},
		{three(8), 0, 0, span(3, 5)}, {three(8), 2, 0, span(0, 2)},
		{wide(2, 5, 4), 0, 0, span(0, 4)}, {wide(2, 5, 4), 0, 1, span(0, 4)},
		{wide(2, 5, 5), 1, 1, span(0, 5)}, {wide(2, 8, 5), 1, 0, span(0, 5)},
		{wide(8, 5, 5), 7, 0, span(0, 5)}, {wide(8, 8, 5), 0, 7, span(0, 5)}, {wide(8, 2, 2), 3, 4, span(0, 2)},
		{wide(3, 0, 0), 0, 0, span(0, 0)},
		{chain, 0, 0, span(4, 5)}, {chain, 1, 0, span(0, 1)}, {chain, 1, 1, span(4, 5)}, {chain, 2, 1, span(0, 1)}, {chain, 2, 2, span(5, 5)}, {chain, 0, 1, span(0, 0)},
		{first, 0, 0, span(1, 1)}, {first, 0, 1, span(4, 4)}, {first, 1, 1, span(0, 0)}, {first, 1, 0, span(0, 0)},
		{alone(8, 5), 0, 0, span(5, 5)}, {alone(3, 3), 0, 0, span(3, 3)}, {alone(8, 0), 0, 0, span(0, 0)}, {alone(0, 0), 0, 0, span(0, 0)},
	} {
		if got, e := target.Hits(x.b, x.skier, x.lane); got != x.want || e != api.OK {
			t.Error(i, got, e)
		}
		reasoned(t, x.b, x.skier, x.lane, x.want)
	}
}

// P3.2 and P3.3: the errors of Hits, Reasons and Shows, in their order.
func TestHitsRefuses(t *testing.T) {
	for i, x := range []struct {
		b           target.Bout
		skier, lane int
		lanes       []int
		want, shows api.Errno
	}{
		{three(5), 3, 0, nil, api.ErrUnknown, api.ErrUnknown},
		{three(5), -1, 0, nil, api.ErrUnknown, api.ErrUnknown},
		{three(5), 0, 3, nil, api.ErrUnknown, api.ErrUnknown},
		{three(5), 0, -1, nil, api.ErrUnknown, api.ErrUnknown},
		{three(5), math.MinInt, math.MaxInt, nil, api.ErrUnknown, api.ErrUnknown},
		{three(2), 3, 3, []int{2, 0}, api.ErrUnknown, api.ErrUnknown},
		{three(2), 0, -1, []int{2, 0}, api.ErrUnknown, api.ErrUnknown},
		{three(2), 0, 0, nil, api.ErrConflict, api.ErrConflict},
		{three(2), 1, 1, []int{0, 2}, api.ErrConflict, api.ErrConflict},
		{three(2), 1, 0, []int{1}, api.ErrConflict, api.ErrConflict},
		{three(2), 0, 0, []int{2, 0}, api.ErrConflict, api.ErrOrder},
		{three(2), 0, 0, []int{1, 1}, api.ErrConflict, api.ErrOrder},
		{three(2), 0, 0, []int{2, 0, 3}, api.ErrConflict, api.ErrUnknown},
		{three(2), 0, 0, []int{-1}, api.ErrConflict, api.ErrUnknown},
		{three(5), 0, 0, []int{2, 0}, api.OK, api.ErrOrder},
		{three(5), 0, 0, []int{0, 0}, api.OK, api.ErrOrder},
		{three(5), 0, 0, []int{0, 2, 2}, api.OK, api.ErrOrder},
		{three(5), 0, 0, []int{0, 3}, api.OK, api.ErrUnknown},
		{three(5), 0, 0, []int{2, 0, -1}, api.OK, api.ErrUnknown},
		{three(5), 0, 0, []int{math.MinInt}, api.OK, api.ErrUnknown},
		{alone(4, 5), 0, 0, nil, api.ErrConflict, api.ErrConflict},
		{alone(4, 5), 0, 1, nil, api.ErrUnknown, api.ErrUnknown},
	} {
		hits, e := target.Hits(x.b, x.skier, x.lane)
		low, high, f := target.Reasons(x.b, x.skier, x.lane)
		shown, g := target.Shows(x.b, x.skier, x.lane, x.lanes)
		if e != x.want || f != x.want || g != x.shows {
			t.Error(i, e, f, g)
		}
		if e != api.OK && hits != span(0, 0) || f != api.OK && len(low)+len(high) > 0 || shown != span(0, 0) {
			t.Error(i, hits, low, high, shown)
		}
	}
}

// P3.3: what lanes show, whether or not they are reasons.
func TestShows(t *testing.T) {
	both := target.Bout{Shots: []int{8, 2, 1}, Down: []int{5, 4, 0}, Across: []target.Pair{pair(0, 1), pair(2, 0), pair(2, 1)}}
	for i, x := range []struct {
		b           target.Bout
		skier, lane int
		lanes       []int
		want        api.Span
	}{
		{three(5), 0, 0, []int{0, 2}, span(3, 5)},
		{three(5), 0, 0, []int{0, 1, 2}, span(3, 5)},
		{three(5), 0, 0, []int{0}, span(0, 5)},
		{three(5), 0, 0, []int{2}, span(0, 5)},
		{three(5), 0, 0, []int{1}, span(0, 5)},
		{three(5), 0, 0, nil, span(0, 5)},
		{three(8), 0, 0, nil, span(0, 5)},
		{three(4), 0, 0, nil, span(0, 4)},
		{three(5), 2, 0, []int{2}, span(0, 2)},
		{three(5), 2, 0, []int{1, 2}, span(0, 2)},
		{three(5), 2, 0, []int{1}, span(0, 5)},
		{three(5), 2, 0, []int{0}, span(0, 5)},
		{three(5), 2, 0, []int{0, 2}, span(0, 5)},
		{three(4), 2, 0, []int{0}, span(1, 5)},
		{three(4), 2, 0, []int{0, 1}, span(1, 5)},
		{three(4), 2, 0, []int{0, 2}, span(0, 5)},
		{three(5), 2, 2, []int{2}, span(3, 3)},
		{three(5), 2, 2, []int{0, 2}, span(0, 3)},
		{three(5), 2, 2, []int{0}, span(0, 3)},
		{three(5), 1, 0, []int{1}, span(0, 0)},
		{three(5), 1, 0, []int{0}, span(0, 0)},
		{three(5), 1, 0, []int{0, 1}, span(0, 0)},
		{three(5), 0, 2, []int{0, 2}, span(0, 0)},
		// The skier 0 can have hit both lanes, which therefore show no Lo together.
		{both, 0, 0, []int{0}, span(4, 5)},
		{both, 0, 0, []int{0, 1}, span(0, 5)},
		{both, 0, 0, []int{0, 2}, span(4, 5)},
		{both, 0, 1, []int{1}, span(1, 4)},
		{both, 0, 1, []int{0}, span(0, 4)},
		{both, 0, 0, []int{1}, span(0, 5)},
		{both, 2, 0, []int{1}, span(0, 1)},
		{both, 1, 1, []int{0}, span(0, 2)},
		{wide(2, 1, 1), 0, 0, []int{1}, span(0, 1)},
	} {
		if got, e := target.Shows(x.b, x.skier, x.lane, x.lanes); got != x.want || e != api.OK {
			t.Error(i, got, e)
		}
	}
}

// P3.2: shots without a target, and pairs that are crossed.
func TestWastedAndCrossed(t *testing.T) {
	swap := target.Bout{Shots: []int{0, 0, 8}, Down: []int{2, 1, 4}, Across: []target.Pair{pair(1, 0), pair(2, 0), pair(2, 1)}}
	for i, x := range []struct {
		b       target.Bout
		wasted  []api.Span
		crossed []target.Pair
		e       api.Errno
	}{
		{three(5), []api.Span{span(0, 2), span(0, 0), span(0, 2)}, nil, api.OK},
		{three(4), []api.Span{span(0, 1), span(0, 0), span(0, 1)}, []target.Pair{pair(2, 0)}, api.OK},
		{three(3), []api.Span{span(0, 0), span(0, 0), span(0, 0)}, []target.Pair{pair(2, 0)}, api.OK},
		{three(8), []api.Span{span(3, 5), span(0, 0), span(0, 2)}, nil, api.OK},
		{wide(2, 5, 4), []api.Span{span(0, 2), span(0, 2)}, nil, api.OK},
		{wide(2, 8, 5), []api.Span{span(0, 6), span(0, 6)}, nil, api.OK},
		{wide(3, 8, 1), []api.Span{span(5, 8), span(5, 8), span(5, 8)}, nil, api.OK},
		{wide(2, 0, 0), []api.Span{span(0, 0), span(0, 0)}, nil, api.OK},
		{swap, []api.Span{span(0, 0), span(0, 0), span(1, 1)}, []target.Pair{pair(2, 0), pair(2, 1)}, api.OK},
		{alone(8, 5), []api.Span{span(3, 3)}, nil, api.OK},
		{alone(8, 0), []api.Span{span(8, 8)}, nil, api.OK},
		{three(2), nil, nil, api.ErrConflict},
		{alone(4, 5), nil, nil, api.ErrConflict},
	} {
		wasted, e := target.Wasted(x.b)
		crossed, f := target.Crossed(x.b)
		if !slices.Equal(wasted, x.wasted) || !slices.Equal(crossed, x.crossed) || e != x.e || f != x.e {
			t.Error(i, wasted, crossed, e, f)
		}
	}
}

// P3.2, P3.3 and P3.7: all of random bouts, by all assignments.
func TestHitsOfRandomBouts(t *testing.T) {
	g := rand.New(rand.NewSource(3))
	for range 1500 {
		n := 1 + g.Intn(3)
		b := wildBout(g, n)
		all := assignments(b)
		if len(all) == 0 {
			continue
		}
		var wasted []api.Span
		var crossed []target.Pair
		for i := range n {
			wasted = append(wasted, spanOf(all, func(hits [][]int) int { return b.Shots[i] - sumOf(hits[i]) }))
			for lane := range n {
				number := func(hits [][]int) int { return hits[i][lane] }
				want := spanOf(all, number)
				if got, e := target.Hits(b, i, lane); got != want || e != api.OK {
					t.Fatal(b, i, lane, got, want, e)
				}
				reasoned(t, b, i, lane, want)
				if i != lane && want.Lo > 0 {
					crossed = append(crossed, pair(i, lane))
				}
				for k := want.Lo; k <= want.Hi; k++ {
					if !slices.ContainsFunc(all, func(hits [][]int) bool { return number(hits) == k }) {
						t.Fatal("a number of a span is that of no assignment", b, i, lane, k)
					}
				}
			}
		}
		w, e := target.Wasted(b)
		c, f := target.Crossed(b)
		if !slices.Equal(w, wasted) || !slices.Equal(c, crossed) || e != api.OK || f != api.OK {
			t.Fatal(b, w, wasted, c, crossed, e, f)
		}
	}
}

// P3.2, P3.3 and P3.7: random bouts of up to eight skiers, by all sets of
// lanes. The assignment that really was has each number in its span.
func TestHitsOfLargeBouts(t *testing.T) {
	g := rand.New(rand.NewSource(4))
	for range 50 {
		n := 4 + g.Intn(5)
		b, hits := someBout(g, n, g.Intn(20))
		sets := laneSets(n)
		got := spans(t, b)
		var crossed []target.Pair
		for i := range n {
			for lane := range n {
				want := span(0, math.MaxInt)
				for _, lanes := range sets {
					shown := shownOf(b, i, lane, lanes)
					want = span(max(want.Lo, shown.Lo), min(want.Hi, shown.Hi))
					if g.Intn(8) > 0 {
						continue
					}
					if x, e := target.Shows(b, i, lane, lanes); x != shown || e != api.OK {
						t.Fatal(b, i, lane, lanes, x, shown, e)
					}
				}
				if got[i][lane] != want || !in(hits[i][lane], want) {
					t.Fatal(b, i, lane, got[i][lane], want)
				}
				reasoned(t, b, i, lane, want)
				if i != lane && want.Lo > 0 {
					crossed = append(crossed, pair(i, lane))
				}
			}
		}
		if c, e := target.Crossed(b); !slices.Equal(c, crossed) || e != api.OK {
			t.Fatal(b, c, crossed, e)
		}
	}
}

// P3.2 and P3.7: the shots that are wasted in bouts of up to eight skiers. A
// skier needs as many hits as lanes are short by, if the skier fired none.
func TestWastedOfLargeBouts(t *testing.T) {
	g := rand.New(rand.NewSource(5))
	for range 200 {
		n := 4 + g.Intn(5)
		b, hits := someBout(g, n, g.Intn(20))
		wasted, e := target.Wasted(b)
		if len(wasted) != n || e != api.OK {
			t.Fatal(b, wasted, e)
		}
		for i := range n {
			idle := copied(b)
			idle.Shots[i] = 0
			needs, could := 0, 0
			for _, lanes := range laneSets(n) {
				needs = max(needs, shortOf(idle, lanes))
			}
			for lane := range n {
				if canOf(b, i, lane) {
					could += b.Down[lane]
				}
			}
			want := span(max(0, b.Shots[i]-could), b.Shots[i]-needs)
			if wasted[i] != want || !in(b.Shots[i]-sumOf(hits[i]), want) {
				t.Fatal(b, i, wasted[i], want)
			}
		}
	}
}

// P3.7: a pair more never makes a span narrower.
func TestPairMore(t *testing.T) {
	g := rand.New(rand.NewSource(6))
	for range 150 {
		b, _ := someBout(g, 2+g.Intn(4), g.Intn(8))
		p := pair(g.Intn(len(b.Shots)), g.Intn(len(b.Shots)))
		if canOf(b, p.Skier, p.Lane) {
			continue
		}
		more := copied(b)
		more.Across = append(more.Across, p)
		slices.SortFunc(more.Across, func(p, q target.Pair) int {
			return cmp.Or(p.Skier-q.Skier, p.Lane-q.Lane)
		})
		before, after := spans(t, b), spans(t, more)
		for i := range before {
			for lane, s := range before[i] {
				if !in(s.Lo, after[i][lane]) || !in(s.Hi, after[i][lane]) {
					t.Fatal(b, p, i, lane, s, after[i][lane])
				}
			}
		}
	}
}

// P3.7: whose shots are all at the own lane has hit what nobody else can have hit.
func TestOwnLane(t *testing.T) {
	g := rand.New(rand.NewSource(7))
	for range 300 {
		b, _ := someBout(g, 1+g.Intn(6), g.Intn(8))
		i := g.Intn(len(b.Shots))
		b.Across = slices.DeleteFunc(b.Across, func(p target.Pair) bool { return p.Skier == i })
		hits, e := target.Hits(b, i, i)
		if e == api.ErrConflict {
			continue
		}
		if left := b.Down[i] - shotsOf(b, []int{i}, i); hits.Lo < left || e != api.OK {
			t.Fatal(b, i, hits, left, e)
		}
		if !slices.ContainsFunc(b.Across, func(p target.Pair) bool { return p.Lane == i }) && hits != span(b.Down[i], b.Down[i]) {
			t.Fatal(b, i, hits)
		}
	}
}

// R4: bouts and tables are not modified, not even behind their ends, and results are new.
func TestBoutMemory(t *testing.T) {
	b := three(4)
	b.Shots, b.Down, b.Across = append(b.Shots, 7)[:3], append(b.Down, 7)[:3], append(b.Across, pair(9, 9))[:1]
	table, lanes := [][]int{{4, 0, 0}, {0, 5, 0}, {1, 0, 3}}, []int{0, 2}
	for i := range 2 {
		hits, _ := target.Assign(b)
		if len(hits) != 3 || len(hits[0]) != 3 {
			t.Fatal(i, hits)
		}
		want := slices.Clone(hits[1])
		hits[0] = append(hits[0], 9, 9, 9)
		if !slices.Equal(hits[1], want) {
			t.Error("rows share memory", hits)
		}
		wasted, _ := target.Wasted(b)
		crossed, _ := target.Crossed(b)
		low, high, _ := target.Reasons(b, 0, 0)
		if len(wasted) != 3 || !slices.Equal(crossed, b.Across) {
			t.Error(i, wasted, crossed)
		}
		target.Fits(b, table)
		target.Proves(b, lanes)
		target.Shows(b, 0, 0, lanes)
		target.Short(b)
		clear(hits[0])
		clear(wasted)
		clear(crossed)
		clear(low)
		clear(high)
	}
	if !equal(b, three(4)) || b.Shots[:4][3] != 7 || b.Down[:4][3] != 7 || b.Across[:2][1] != pair(9, 9) || !slices.Equal(lanes, []int{0, 2}) || !slices.Equal(table[2], []int{1, 0, 3}) {
		t.Error("an argument is modified", b, table, lanes)
	}
}
