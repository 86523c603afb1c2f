package target_test

import (
	"math"
	"math/rand"
	"slices"
	"testing"

	"klister/api"
	"klister/target"
)

func sheet(from, to, lo, hi int) target.Sheet {
	return target.Sheet{From: from, To: to, Loops: span(lo, hi)}
}

// four are the sheets of the chapter's third example.
func four() []target.Sheet {
	return []target.Sheet{sheet(0, 1, 2, 2), sheet(1, 3, 3, 4), sheet(3, 3, 2, 2)}
}

// callsOfSheets calls each function that has the errors of CheckSheets, with
// other arguments that it refuses too, and returns what each returns, and
// whether all else is zero.
func callsOfSheets(n int, l []target.Sheet) (errors []api.Errno, zero bool) {
	skied, e1 := target.Skied(n, l)
	between, e2 := target.Between(n, l, -1, 99)
	errors = []api.Errno{target.CheckSheets(n, l), e1, e2}
	zero = len(skied) == 0 && between == span(0, 0)
	if n < 0 || n > 99 {
		return errors, zero
	}
	owed := make([]int, n)
	few, e3 := target.Few(owed, l)
	round, e4 := target.Round(owed, l)
	shows, e5 := target.RoundShows(owed, l, nil)
	due, e6 := target.Due([][]int{{0}, owed}, [][]target.Sheet{nil, l})
	return append(errors, e3, e4, e5, e6), zero && !few && len(round)+len(due) == 0 && shows == 0
}

// P3.4: sheets at the ends of what is allowed.
func TestCheckSheetsAllows(t *testing.T) {
	for i, x := range []struct {
		n int
		l []target.Sheet
	}{
		{1, nil}, {8, nil}, {4, four()}, {8, four()}, {1, make([]target.Sheet, 20)},
		{8, []target.Sheet{sheet(0, 7, 0, 72), sheet(7, 7, 72, 72), sheet(0, 0, 0, 0), sheet(0, 7, 0, 72)}},
		{4, []target.Sheet{sheet(3, 3, 0, 0), sheet(0, 0, 0, 0), sheet(1, 2, 71, 72)}},
	} {
		if e := target.CheckSheets(x.n, x.l); e != api.OK {
			t.Error(i, e)
		}
	}
}

// P3.4 and P3.5: what is not allowed, and which error is first, in all calls with these errors.
func TestCheckSheetsRefuses(t *testing.T) {
	for i, x := range []struct {
		n    int
		l    []target.Sheet
		want api.Errno
	}{
		{0, nil, api.ErrCount},
		{9, nil, api.ErrCount},
		{-1, nil, api.ErrCount},
		{math.MaxInt, nil, api.ErrCount},
		{math.MinInt, nil, api.ErrCount},
		{0, []target.Sheet{sheet(0, 0, 0, 0)}, api.ErrCount},
		{9, []target.Sheet{sheet(0, 9, 1, 0)}, api.ErrCount},
		{1, make([]target.Sheet, 21), api.ErrCount},
		{1, slices.Repeat([]target.Sheet{sheet(1, 0, 1, 0)}, 21), api.ErrCount},
		{4, append(four(), sheet(-1, 0, 0, 0)), api.ErrUnknown},
		{4, append(four(), sheet(0, 4, 0, 0)), api.ErrUnknown},
		{4, append(four(), sheet(4, 4, 0, 0)), api.ErrUnknown},
		{4, append(four(), sheet(2, 1, 0, 0)), api.ErrUnknown},
		{4, append(four(), sheet(-2, -1, 0, 0)), api.ErrUnknown},
		{4, append(four(), sheet(5, 4, 0, 0)), api.ErrUnknown},
		{4, append(four(), sheet(math.MinInt, math.MaxInt, 0, 0)), api.ErrUnknown},
		{4, append(four(), sheet(0, math.MaxInt, 0, 0)), api.ErrUnknown},
		{3, four(), api.ErrUnknown},
		{4, []target.Sheet{sheet(0, 0, 1, 0), sheet(2, 1, 0, 0)}, api.ErrUnknown},
		{4, []target.Sheet{sheet(0, 0, -1, 73), sheet(0, 4, 0, 0)}, api.ErrUnknown},
		{4, append(four(), sheet(0, 3, 3, 2)), api.ErrRange},
		{4, append(four(), sheet(0, 3, -1, 2)), api.ErrRange},
		{4, append(four(), sheet(0, 3, -2, -1)), api.ErrRange},
		{4, append(four(), sheet(0, 3, 0, 73)), api.ErrRange},
		{4, append(four(), sheet(0, 3, 73, 73)), api.ErrRange},
		{4, append(four(), sheet(0, 3, 73, 72)), api.ErrRange},
		{4, append(four(), sheet(0, 3, 0, -1)), api.ErrRange},
		{4, append(four(), sheet(0, 3, math.MinInt, math.MaxInt)), api.ErrRange},
		{4, append([]target.Sheet{sheet(0, 0, 1, 0)}, four()...), api.ErrRange},
		// There is no truth of these: that is told later than all else.
		{1, []target.Sheet{sheet(0, 0, 1, 1), sheet(0, 0, 2, 2), sheet(0, 0, 3, 2)}, api.ErrRange},
	} {
		errors, zero := callsOfSheets(x.n, x.l)
		if !zero || slices.ContainsFunc(errors, func(e api.Errno) bool { return e != x.want }) {
			t.Error(i, errors, zero, x.want)
		}
	}
}

// P3.4: example 3 of the chapter, and other sheets.
func TestSkied(t *testing.T) {
	for i, x := range []struct {
		n    int
		l    []target.Sheet
		want []api.Span
		all  api.Span
		e    api.Errno
	}{
		{4, four(), []api.Span{span(0, 2), span(0, 2), span(0, 2), span(2, 2)}, span(4, 6), api.OK},
		{5, four(), []api.Span{span(0, 2), span(0, 2), span(0, 2), span(2, 2), span(0, 9)}, span(4, 15), api.OK},
		{1, nil, []api.Span{span(0, 9)}, span(0, 9), api.OK},
		{8, nil, slices.Repeat([]api.Span{span(0, 9)}, 8), span(0, 72), api.OK},
		{8, []target.Sheet{sheet(0, 7, 72, 72)}, slices.Repeat([]api.Span{span(9, 9)}, 8), span(72, 72), api.OK},
		{8, []target.Sheet{sheet(0, 7, 70, 72)}, slices.Repeat([]api.Span{span(7, 9)}, 8), span(70, 72), api.OK},
		{8, []target.Sheet{sheet(0, 7, 0, 0)}, slices.Repeat([]api.Span{span(0, 0)}, 8), span(0, 0), api.OK},
		{2, []target.Sheet{sheet(0, 1, 17, 72)}, []api.Span{span(8, 9), span(8, 9)}, span(17, 18), api.OK},
		{2, []target.Sheet{sheet(0, 1, 0, 3)}, []api.Span{span(0, 3), span(0, 3)}, span(0, 3), api.OK},
		{1, []target.Sheet{sheet(0, 0, 0, 72), sheet(0, 0, 3, 8), sheet(0, 0, 1, 5)}, []api.Span{span(3, 5)}, span(3, 5), api.OK},
		{3, []target.Sheet{sheet(0, 1, 5, 5), sheet(1, 2, 5, 5), sheet(0, 2, 6, 6)}, []api.Span{span(1, 1), span(4, 4), span(1, 1)}, span(6, 6), api.OK},
		{3, []target.Sheet{sheet(0, 1, 4, 5), sheet(1, 2, 4, 6), sheet(1, 1, 1, 2)}, []api.Span{span(2, 4), span(1, 2), span(2, 5)}, span(6, 10), api.OK},
		{2, []target.Sheet{sheet(0, 1, 3, 3), sheet(0, 0, 4, 5)}, nil, span(0, 0), api.ErrConflict},
		{2, []target.Sheet{sheet(0, 1, 19, 72)}, nil, span(0, 0), api.ErrConflict},
		{1, []target.Sheet{sheet(0, 0, 10, 10)}, nil, span(0, 0), api.ErrConflict},
		{1, []target.Sheet{sheet(0, 0, 1, 1), sheet(0, 0, 2, 2)}, nil, span(0, 0), api.ErrConflict},
		{3, []target.Sheet{sheet(0, 1, 5, 5), sheet(1, 2, 5, 5), sheet(0, 2, 11, 11)}, nil, span(0, 0), api.ErrConflict},
		{8, []target.Sheet{sheet(7, 7, 1, 1), sheet(6, 7, 0, 0)}, nil, span(0, 0), api.ErrConflict},
	} {
		got, e := target.Skied(x.n, x.l)
		all, f := target.Between(x.n, x.l, 0, x.n-1)
		if !slices.Equal(got, x.want) || all != x.all || e != x.e || f != x.e {
			t.Error(i, got, all, e, f)
		}
	}
}

// P3.4: sums after several bouts, and the errors of Between in their order.
func TestBetween(t *testing.T) {
	none := []target.Sheet{sheet(0, 1, 19, 72)}
	for i, x := range []struct {
		n        int
		l        []target.Sheet
		from, to int
		want     api.Span
		e        api.Errno
	}{
		{4, four(), 0, 0, span(0, 2), api.OK},
		{4, four(), 0, 1, span(2, 2), api.OK},
		{4, four(), 1, 2, span(1, 2), api.OK},
		{4, four(), 2, 3, span(2, 4), api.OK},
		{4, four(), 0, 2, span(2, 4), api.OK},
		{4, four(), 1, 3, span(3, 4), api.OK},
		{4, four(), 3, 3, span(2, 2), api.OK},
		{4, nil, 1, 2, span(0, 18), api.OK},
		{8, nil, 7, 7, span(0, 9), api.OK},
		{2, none, 0, 1, span(0, 0), api.ErrConflict},
		{2, none, 1, 1, span(0, 0), api.ErrConflict},
		{8, none, 7, 7, span(0, 0), api.ErrConflict},
		{2, none, 1, 0, span(0, 0), api.ErrUnknown},
		{2, none, 0, 2, span(0, 0), api.ErrUnknown},
		{2, none, -1, 1, span(0, 0), api.ErrUnknown},
		{2, nil, 2, 2, span(0, 0), api.ErrUnknown},
		{2, nil, 1, 2, span(0, 0), api.ErrUnknown},
		{2, nil, 2, 1, span(0, 0), api.ErrUnknown},
		{2, nil, 1, 0, span(0, 0), api.ErrUnknown},
		{2, nil, -1, -1, span(0, 0), api.ErrUnknown},
		{2, nil, math.MinInt, math.MaxInt, span(0, 0), api.ErrUnknown},
		{2, nil, 0, math.MaxInt, span(0, 0), api.ErrUnknown},
	} {
		if got, e := target.Between(x.n, x.l, x.from, x.to); got != x.want || e != x.e {
			t.Error(i, got, e)
		}
	}
}

// between compares Skied and Between with all truths.
func between(t *testing.T, n int, l []target.Sheet) {
	all := truths(n, l)
	skied, e := target.Skied(n, l)
	if len(all) == 0 && (len(skied) > 0 || e != api.ErrConflict) || len(all) > 0 && (len(skied) != n || e != api.OK) {
		t.Fatal(n, l, skied, e)
	}
	for from := 0; from < n; from++ {
		for to := from; to < n; to++ {
			var want api.Span
			for i, loops := range all {
				sum := sumOf(loops[from : to+1])
				if i == 0 {
					want = span(sum, sum)
				}
				want = span(min(want.Lo, sum), max(want.Hi, sum))
			}
			got, f := target.Between(n, l, from, to)
			if got != want || f != e || from == to && len(all) > 0 && skied[from] != want {
				t.Fatal(n, l, from, to, got, want, f)
			}
		}
	}
}

// P3.4 and P3.7: random sheets, by all truths. What really was lies in each span.
func TestSkiedOfRandomSheets(t *testing.T) {
	g := rand.New(rand.NewSource(8))
	for range 1500 {
		n := 1 + g.Intn(3)
		between(t, n, wildSheets(g, n, g.Intn(5), g.Intn(5)))
	}
	for range 200 {
		n := 4 + g.Intn(5)
		l := wildSheets(g, n, g.Intn(9), 1)
		// Each bout has a sheet of its own, so that there are not too many truths.
		for i := 0; i < n; i++ {
			lo := g.Intn(8)
			l = append(l, sheet(i, i, lo, lo+g.Intn(2)))
		}
		between(t, n, l)
	}
	for range 500 {
		n := 1 + g.Intn(8)
		loops, l := someSheets(g, n, g.Intn(21), g.Intn(4))
		skied, e := target.Skied(n, l)
		if len(skied) != n || e != api.OK {
			t.Fatal(n, l, skied, e)
		}
		for i, s := range skied {
			if !in(loops[i], s) {
				t.Fatal(n, l, loops, skied)
			}
		}
	}
}
