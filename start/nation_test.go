package start_test

import (
	"math"
	"math/rand"
	"slices"
	"testing"

	"klister/api"
	"klister/start"
)

// P2.3: by how much orders keep nations apart: examples 1 and 2 of the chapter, and others.
func TestApart(t *testing.T) {
	for i, x := range []struct {
		f     []start.Skier
		order []int
		want  int
	}{
		{five(), []int{1, 0, 3, 4, 2}, 1},
		{five(), []int{0, 3, 1, 4, 2}, 2},
		{five(), []int{0, 3, 4, 1, 2}, 1},
		{five(), []int{0, 3, 1, 2, 4}, 1},
		{ofNations(0, 0, 1, 1, 2), []int{0, 2, 4, 1, 3}, 3},
		{ofNations(0, 0, 1, 1, 2), []int{0, 2, 4, 3, 1}, 2},
		{ofNations(30, 1, 2, 30), []int{0, 1, 2, 3}, 3},
		{ofNations(0, 1, 2), []int{2, 0, 1}, 3},
		{ofNations(7), []int{0}, 1},
	} {
		if got, e := start.Apart(x.f, x.order); got != x.want || e != api.OK {
			t.Error(i, got, e)
		}
	}
}

// P2.3 and P2.4: the errors of an order, which Interval has too.
func TestApartRefuses(t *testing.T) {
	for i, x := range []struct {
		order []int
		want  api.Errno
	}{
		{nil, api.ErrCount},
		{[]int{0, 1, 2, 9}, api.ErrCount},
		{[]int{0, 0, 1, 2, 3, 4}, api.ErrCount},
		{[]int{0, 1, 2, 3, 5}, api.ErrUnknown},
		{[]int{-1, 1, 2, 3, 4}, api.ErrUnknown},
		{[]int{0, 0, 2, 3, math.MaxInt}, api.ErrUnknown},
		{[]int{0, 0, 2, 3, math.MinInt}, api.ErrUnknown},
		{[]int{0, 1, 2, 3, 3}, api.ErrTwice},
		{[]int{0, 1, 2, 3, 0}, api.ErrTwice},
	} {
		n, e := start.Apart(five(), x.order)
		l, g := start.Interval(five(), x.order, 0)
		if n != 0 || len(l) > 0 || e != x.want || g != x.want {
			t.Error(i, n, l, e, g)
		}
	}
}

// P2.3: bounds of nations: example 2 of the chapter, and others.
func TestBound(t *testing.T) {
	for i, x := range []struct {
		f       []start.Skier
		nations []int
		want    int
	}{
		{five(), []int{0}, 2},
		{ofNations(0, 0), []int{0}, 1},
		{ofNations(30, 30, 30), []int{30}, 1},
		{ofNations(0, 0, 1, 1, 2), []int{0}, 4},
		{ofNations(0, 0, 1, 1, 2), []int{1}, 4},
		{ofNations(0, 0, 1, 1, 2), []int{0, 1}, 3},
		{ofNations(0, 0, 0, 1, 1, 2, 2), []int{0}, 3},
		{ofNations(0, 0, 0, 1, 1, 2, 2), []int{0, 1}, 5},
		{ofNations(0, 0, 0, 1, 1, 2, 2), []int{0, 1, 2}, 4},
		{ofNations(3, 3, 3, 3, 1, 2), []int{3}, 1},
	} {
		if got, e := start.Bound(x.f, x.nations); got != x.want || e != api.OK {
			t.Error(i, got, e)
		}
	}
}

// P2.3: the errors of Bound and Tight, in their order.
func TestBoundRefuses(t *testing.T) {
	for i, x := range []struct {
		nations []int
		want    api.Errno
	}{
		{nil, api.ErrCount},
		{[]int{}, api.ErrCount},
		{[]int{0, 0}, api.ErrOrder},
		{[]int{2, 1}, api.ErrOrder},
		{[]int{math.MaxInt, math.MinInt}, api.ErrOrder},
		{[]int{0, 1}, api.ErrNone},
		{[]int{1}, api.ErrNone},
		{[]int{3}, api.ErrNone},
		{[]int{-1, 0}, api.ErrNone},
		{[]int{0, 31}, api.ErrNone},
		{[]int{math.MinInt, 0, math.MaxInt}, api.ErrNone},
	} {
		if got, e := start.Bound(five(), x.nations); got != 0 || e != x.want {
			t.Error(i, got, e)
		}
	}
	for i, f := range [][]start.Skier{single(1), single(31), ofNations(0, 30)} {
		if got, e := start.Tight(f); len(got) > 0 || e != api.ErrNone {
			t.Error(i, got, e)
		}
	}
}

// checkSpread checks what is said of the order that keeps nations apart by the
// most, by the terms, and returns by how much it does. The bound of nations
// proves that no order does better.
func checkSpread(t *testing.T, f []start.Skier) int {
	order, n, e := start.Spread(f)
	places := slices.Clone(order)
	slices.Sort(places)
	for i, x := range places {
		if i != x {
			t.Fatal(f, order)
		}
	}
	if len(order) != len(f) || n != apartOf(f, order) || e != api.OK {
		t.Fatal(f, order, n, e)
	}
	if got, e := start.Apart(f, order); got != n || e != api.OK {
		t.Fatal(f, order, n, got, e)
	}
	tight, e := start.Tight(f)
	if e == api.ErrNone {
		if n != len(f) || len(tight) > 0 {
			t.Fatal(f, order, n, tight)
		}
		return n
	}
	for i, nation := range tight {
		if sizeOf(f, nation) < 2 || i > 0 && tight[i-1] >= nation {
			t.Fatal(f, tight)
		}
	}
	if len(tight) == 0 || boundOf(f, tight) != n || e != api.OK {
		t.Fatal(f, order, n, tight, e)
	}
	if got, e := start.Bound(f, tight); got != n || e != api.OK {
		t.Fatal(f, n, tight, got, e)
	}
	return n
}

// P2.3: fields for which the most is known.
func TestSpread(t *testing.T) {
	for i, x := range []struct {
		f    []start.Skier
		want int
	}{
		{five(), 2},
		{single(1), 1},
		{single(31), 31},
		{single(60), 31},
		{ofNations(4, 4), 1},
		{ofNations(0, 0, 1), 2},
		{ofNations(0, 0, 1, 1), 2},
		{ofNations(0, 0, 1, 1, 2), 3},
		{ofNations(0, 0, 0, 1, 1, 1, 2), 2},
		{ofNations(0, 0, 0, 1, 1, 1, 2, 3), 3},
		{ofNations(0, 0, 0, 1, 1, 2, 2, 3, 3), 4},
		{ofNations(0, 0, 0, 0, 1, 1, 1, 2, 2, 2, 3, 3, 3), 4},
		{ofNations(0, 0, 0, 0, 1, 1, 2, 2, 3, 3, 4, 4), 3},
		{ofNations(make([]int, 60)...), 1},
	} {
		if got := checkSpread(t, x.f); got != x.want {
			t.Error(i, got)
		}
	}
}

// P2.3 and P2.10: small fields, against all orders and all bounds.
func TestSpreadOfSmallFields(t *testing.T) {
	g := rand.New(rand.NewSource(2))
	for n := 1; n <= 7; n++ {
		orders := permutations(n)
		for range 25 {
			f := someField(g, n, 1+g.Intn(4))
			most := 0
			for _, order := range orders {
				most = max(most, apartOf(f, order))
			}
			if got := checkSpread(t, f); got != most {
				t.Fatal(f, got, most)
			}
			for _, nations := range subsets(4) {
				fits := len(nations) > 0 && !slices.ContainsFunc(nations, func(x int) bool { return sizeOf(f, x) < 2 })
				bound, e := start.Bound(f, nations)
				if fits != (e == api.OK) || fits && (bound != boundOf(f, nations) || bound < most) {
					t.Fatal(f, nations, bound, most, e)
				}
			}
		}
	}
}

// P2.10: fields of all sizes, for which nations prove that no order does better.
func TestSpreadOfLargeFields(t *testing.T) {
	g := rand.New(rand.NewSource(3))
	for range 2000 {
		checkSpread(t, someField(g, 1+g.Intn(60), 1+g.Intn(31)))
	}
}

// P2.10: all sizes that the nations of up to 25 skiers can have.
func TestSpreadOfAllSizes(t *testing.T) {
	for n := 1; n <= 25; n++ {
		for _, sizes := range parts(n, n) {
			var nations []int
			for nation, size := range sizes {
				nations = append(nations, slices.Repeat([]int{nation}, size)...)
			}
			checkSpread(t, ofNations(nations...))
		}
	}
}

// P2.3: arguments are not modified, and results are new (R4).
func TestNationMemory(t *testing.T) {
	f, order, nations := ofNations(0, 0, 1, 1, 2), []int{0, 2, 4, 1, 3}, []int{0, 1}
	for i := range 2 {
		spread, n, _ := start.Spread(f)
		tight, _ := start.Tight(f)
		start.Apart(f, order)
		start.Bound(f, nations)
		if apartOf(f, spread) != 3 || n != 3 || !slices.Equal(tight, []int{0, 1}) {
			t.Error(i, spread, n, tight)
		}
		clear(spread)
		clear(tight)
	}
	if !slices.Equal(f, ofNations(0, 0, 1, 1, 2)) || !slices.Equal(order, []int{0, 2, 4, 1, 3}) || !slices.Equal(nations, []int{0, 1}) {
		t.Error("an argument is modified", f, order, nations)
	}
}
