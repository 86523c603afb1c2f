package start_test

import (
	"math"
	"math/rand"
	"slices"
	"testing"

	"klister/api"
	"klister/start"
)

// three is the race of the chapter's fifth example.
func three() start.Race {
	return start.Race{Laps: 3, Bibs: []int{1, 2, 3}, Times: [][]int{{100, 200, 300}, {150, 310, 450}, {205, 420}}}
}

// raced returns a race of the bibs 1, 2 and so on.
func raced(laps int, times ...[]int) start.Race {
	r := start.Race{Laps: laps, Times: times}
	for i := range times {
		r.Bibs = append(r.Bibs, i+1)
	}
	return r
}

// ticks returns so many times, each a tenth later than the one before.
func ticks(n int) []int {
	l := make([]int, n)
	for i := range l {
		l[i] = i
	}
	return l
}

// P2.9: races at the ends of what is allowed.
func TestCheckRaceAllows(t *testing.T) {
	for i, r := range []start.Race{
		three(),
		{Laps: 1},
		{Laps: 20, Bibs: []int{}, Times: [][]int{}},
		raced(20, ticks(20)),
		raced(1, []int{0}, []int{360000}, nil),
		{Laps: 2, Bibs: []int{999}, Times: [][]int{{359999, 360000}}},
		raced(1, make([][]int, 60)...),
	} {
		_, e := start.Lapped(r)
		_, f := start.Counted(r)
		if g := start.CheckRace(r); e != api.OK || f != api.OK || g != api.OK {
			t.Error(i, e, f, g)
		}
	}
}

// P2.9: what is not allowed, and which error is first.
func TestCheckRaceRefuses(t *testing.T) {
	for i, x := range []struct {
		change func(r *start.Race)
		want   api.Errno
	}{
		{func(r *start.Race) { r.Laps = 0 }, api.ErrCount},
		{func(r *start.Race) { r.Laps = 21 }, api.ErrCount},
		{func(r *start.Race) { r.Laps = math.MinInt }, api.ErrCount},
		{func(r *start.Race) { r.Laps = 2 }, api.ErrCount},
		{func(r *start.Race) { *r = raced(1, make([][]int, 61)...) }, api.ErrCount},
		{func(r *start.Race) { *r = start.Race{} }, api.ErrCount},
		{func(r *start.Race) { r.Bibs = r.Bibs[:2] }, api.ErrCount},
		{func(r *start.Race) { r.Times = nil; r.Bibs[0] = 0 }, api.ErrCount},
		{func(r *start.Race) { r.Bibs = nil }, api.ErrCount},
		{func(r *start.Race) { r.Times[2] = []int{1, 2, 3, 4}; r.Times[0][0] = -1 }, api.ErrCount},
		{func(r *start.Race) { r.Bibs[2] = 0 }, api.ErrRange},
		{func(r *start.Race) { r.Bibs[2] = 1000 }, api.ErrRange},
		{func(r *start.Race) { r.Times[2][0] = -1; r.Bibs[0] = 2 }, api.ErrRange},
		{func(r *start.Race) { r.Times[2][1] = 360001; r.Times[0][0] = 200 }, api.ErrRange},
		{func(r *start.Race) { r.Times[0][0] = math.MaxInt }, api.ErrRange},
		{func(r *start.Race) { r.Times[2][1] = math.MinInt }, api.ErrRange},
		{func(r *start.Race) { r.Bibs[0] = 3; r.Times[0][0] = 200 }, api.ErrTwice},
		{func(r *start.Race) { r.Times[0][0] = 200 }, api.ErrOrder},
		{func(r *start.Race) { r.Times[2][1] = 204 }, api.ErrOrder},
	} {
		r := three()
		x.change(&r)
		outs, e := start.Lapped(r)
		counted, f := start.Counted(r)
		if g := start.CheckRace(r); e != x.want || f != x.want || g != x.want || len(outs)+len(counted) > 0 {
			t.Error(i, outs, counted, e, f, g)
		}
	}
}

// P2.9: examples 5 and 6 of the chapter, and cases at equal times.
func TestLapped(t *testing.T) {
	for i, x := range []struct {
		r       start.Race
		outs    []start.Out
		counted []int
	}{
		{three(), []start.Out{{Bib: 3, Done: 0, Time: 200, By: 1}, {Bib: 2, Done: 1, Time: 300, By: 1}}, []int{3, 1, 0}},
		{raced(3, []int{100, 200, 300}, []int{150, 300, 450}), nil, []int{3, 3}},
		{raced(3, []int{100, 200, 300}, []int{150, 301, 450}), []start.Out{{Bib: 2, Done: 1, Time: 300, By: 1}}, []int{3, 1}},
		// who is just in time, and who has finished no lap at all
		{raced(2, []int{100, 200}, []int{200, 400}), nil, []int{2, 2}},
		{raced(2, []int{100, 200}, []int{201, 400}), []start.Out{{Bib: 2, Done: 0, Time: 200, By: 1}}, []int{2, 0}},
		{raced(2, []int{100, 200}, nil), []start.Out{{Bib: 2, Done: 0, Time: 200, By: 1}}, []int{2, 0}},
		{raced(1, []int{100}, nil), nil, []int{1, 0}},
		{raced(2, []int{0, 1}, nil), []start.Out{{Bib: 2, Done: 0, Time: 1, By: 1}}, []int{2, 0}},
		{raced(2, nil, []int{359999, 360000}), []start.Out{{Bib: 1, Done: 0, Time: 360000, By: 2}}, []int{0, 2}},
		// two who lap at one time, and two who are lapped then, both by bibs
		{start.Race{Laps: 2, Bibs: []int{9, 4, 7, 2}, Times: [][]int{{50, 100}, {60, 100}, {101}, nil}}, []start.Out{{Bib: 2, Done: 0, Time: 100, By: 4}, {Bib: 7, Done: 0, Time: 100, By: 4}}, []int{2, 2, 0, 0}},
		// the least bib of those who lap then, not of those who are ahead
		{start.Race{Laps: 3, Bibs: []int{1, 9, 2}, Times: [][]int{{10, 101}, {20, 100}, {150}}}, []start.Out{{Bib: 2, Done: 0, Time: 100, By: 9}}, []int{2, 2, 0}},
		// one who is taken out later than another one, and two at one time, not in the order of the bibs
		{raced(4, []int{10, 20, 30, 40}, []int{15, 40}, []int{25}), []start.Out{{Bib: 3, Done: 0, Time: 20, By: 1}, {Bib: 2, Done: 1, Time: 30, By: 1}}, []int{4, 1, 0}},
		{start.Race{Laps: 4, Bibs: []int{3, 2, 1}, Times: [][]int{{1, 2, 3, 40}, {39}, {19, 40}}}, []start.Out{{Bib: 1, Done: 0, Time: 2, By: 3}, {Bib: 2, Done: 0, Time: 2, By: 3}}, []int{4, 0, 0}},
		// laps of somebody who was taken out lap nobody
		{raced(6, []int{10, 20, 30}, []int{19, 50, 60, 70, 80}, []int{18, 29, 65}), []start.Out{{Bib: 2, Done: 1, Time: 30, By: 1}}, []int{3, 1, 3}},
		{raced(6, []int{10, 20, 30}, []int{25, 50, 60, 70, 80}, []int{11, 29, 65}), []start.Out{{Bib: 2, Done: 0, Time: 20, By: 1}}, []int{3, 0, 3}},
		{start.Race{Laps: 5}, nil, nil},
	} {
		outs, e := start.Lapped(x.r)
		counted, f := start.Counted(x.r)
		if !slices.Equal(outs, x.outs) || !slices.Equal(counted, x.counted) || e != api.OK || f != api.OK {
			t.Error(i, outs, counted, e, f)
		}
	}
}

// checkLaps compares what is said of a race, that ends by a time, with what goes
// on tenth by tenth, and returns who is taken out.
func checkLaps(t *testing.T, r start.Race, end int) []start.Out {
	t.Helper()
	outs, e := start.Lapped(r)
	counted, f := start.Counted(r)
	wantOuts, wantCounted := lappedOf(r, end)
	if !slices.Equal(outs, wantOuts) || !slices.Equal(counted, wantCounted) || e != api.OK || f != api.OK {
		t.Fatal(r, outs, wantOuts, counted, wantCounted, e, f)
	}
	return outs
}

// P2.9 and P2.10: random races, tenth by tenth; in the race without those who
// are taken out nobody is.
func TestLappedOfRandomRaces(t *testing.T) {
	g := rand.New(rand.NewSource(8))
	for range 10000 {
		laps := 1 + g.Intn(6)
		r := someRace(g, g.Intn(6), laps, laps+1+g.Intn(20))
		outs := checkLaps(t, r, 30)
		if again, e := start.Lapped(without(r, outs)); len(again) > 0 || e != api.OK {
			t.Fatal(r, outs, again, e)
		}
	}
}

// P2.10: whoever has begun the last lap when another skier finishes is not lapped by that.
func TestLastLap(t *testing.T) {
	g := rand.New(rand.NewSource(9))
	for range 5000 {
		laps := 1 + g.Intn(5)
		r := someRace(g, 2+g.Intn(4), laps, laps+1+g.Intn(20))
		outs, _ := start.Lapped(r)
		for _, o := range outs {
			if o.Done >= laps-1 {
				t.Fatal(r, o)
			}
		}
	}
}

// P2.9: as many skiers and laps as there may be, one slower than the other.
func TestLongRace(t *testing.T) {
	var times [][]int
	for i := range 60 {
		var l []int
		for lap := range 20 {
			l = append(l, (lap+1)*(50+i))
		}
		times = append(times, l)
	}
	outs := checkLaps(t, raced(20, times...), 20*109)
	// Bib 4 finishes its lap 17 at 901, one tenth after the lap 18 of bib 1; bib 3 is never so late.
	if last := outs[len(outs)-1]; last != (start.Out{Bib: 4, Done: 16, Time: 900, By: 1}) {
		t.Error(last)
	}
	if len(outs) != 57 {
		t.Error(outs)
	}
}

// P2.9: arguments are not modified, and results are new (R4).
func TestLapMemory(t *testing.T) {
	r := three()
	for i := range 2 {
		outs, _ := start.Lapped(r)
		counted, _ := start.Counted(r)
		if len(outs) != 2 || !slices.Equal(counted, []int{3, 1, 0}) {
			t.Error(i, outs, counted)
		}
		clear(outs)
		clear(counted)
	}
	if want := three(); r.Laps != 3 || !slices.Equal(r.Bibs, want.Bibs) || !same(r.Times, want.Times) {
		t.Error("an argument is modified", r)
	}
}
