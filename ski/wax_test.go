package ski_test

import (
	"math"
	"math/rand"
	"slices"
	"testing"

	"klister/api"
	"klister/ski"
)

// three returns the table of the chapter's example 4.
func three() [][]int { return [][]int{{5, 4, 9, 9}, {6, 2, 3, 8}, {9, 9, 2, 1}} }

// rows returns a table with so many rows with the same number of elements.
func rows(waxes, snows int) [][]int {
	loss := make([][]int, waxes)
	for i := range loss {
		loss[i] = make([]int, snows)
	}
	return loss
}

func sameTable(a, b [][]int) bool {
	return slices.EqualFunc(a, b, func(x, y []int) bool { return slices.Equal(x, y) })
}

// P5.5: example 4 of the chapter, and the ends of what is allowed.
func TestRegrets(t *testing.T) {
	for i, x := range []struct{ loss, want [][]int }{
		{three(), [][]int{{0, 2, 7, 8}, {1, 0, 1, 7}, {4, 7, 0, 0}}},
		{[][]int{{7, 0, 10000}}, [][]int{{0, 0, 0}}},
		{[][]int{{0}, {10000}}, [][]int{{0}, {10000}}},
		{[][]int{{10000}, {10000}}, [][]int{{0}, {0}}},
		{[][]int{{3, 1}, {3, 2}}, [][]int{{0, 0}, {0, 1}}},
		{rows(12, 20), rows(12, 20)},
	} {
		if got, e := ski.Regrets(x.loss); !sameTable(got, x.want) || e != api.OK {
			t.Error(i, got, e)
		}
	}
}

// tableErrors returns the errors of all functions of tables, the other arguments
// of which are refused with errors that come later.
func tableErrors(loss [][]int) []api.Errno {
	_, _, e := ski.Wax(loss, -1, 99)
	return []api.Errno{
		second(ski.Regrets(loss)), e,
		second(ski.Bag(loss, -1)),
		second(ski.Zones(loss, -1)),
		second(ski.Breaks(loss, 10001)),
		second(ski.BreaksShow(loss, 10001, []int{99})),
	}
}

// P5.5: what is refused of a table, and which of several errors comes first, in all functions of tables.
func TestTableRefuses(t *testing.T) {
	for i, x := range []struct {
		loss [][]int
		e    api.Errno
	}{
		{nil, api.ErrCount},
		{[][]int{}, api.ErrCount},
		{[][]int{nil}, api.ErrCount},
		{[][]int{{}, {}}, api.ErrCount},
		{rows(13, 1), api.ErrCount},
		{rows(1, 21), api.ErrCount},
		{rows(12, 21), api.ErrCount},
		{[][]int{{1}, {1, 2}}, api.ErrCount},
		{[][]int{{1, 2}, {1}}, api.ErrCount},
		{[][]int{{1, 2}, {1, 2}, nil}, api.ErrCount},
		{[][]int{nil, {1}}, api.ErrCount},
		{[][]int{make([]int, 20), make([]int, 21)}, api.ErrCount},
		{[][]int{{-1}, {1, 2}}, api.ErrCount},
		{[][]int{{10001, 2}, {1}}, api.ErrCount},
		{[][]int{{10001}}, api.ErrRange},
		{[][]int{{-1}}, api.ErrRange},
		{[][]int{{0, 0}, {0, 10001}}, api.ErrRange},
		{[][]int{{0, 0}, {-1, 0}}, api.ErrRange},
		{[][]int{{0, math.MaxInt}, {0, 0}}, api.ErrRange},
		{[][]int{{0, 0}, {0, math.MinInt}}, api.ErrRange},
	} {
		for k, e := range tableErrors(x.loss) {
			if e != x.e {
				t.Error(i, k, e)
			}
		}
	}
}

// P5.5: example 4 of the chapter, the first one of several waxes, and what is refused.
func TestWax(t *testing.T) {
	for i, x := range []struct {
		loss        [][]int
		from, to    int
		wax, regret int
		e           api.Errno
	}{
		{three(), 0, 2, 1, 1, api.OK},
		{three(), 0, 0, 0, 0, api.OK},
		{three(), 1, 1, 1, 0, api.OK},
		{three(), 0, 3, 1, 7, api.OK},
		{three(), 2, 3, 2, 0, api.OK},
		{three(), 3, 3, 2, 0, api.OK},
		{three(), 0, 1, 1, 1, api.OK},
		{[][]int{{2, 0}, {0, 2}, {1, 1}}, 0, 1, 2, 1, api.OK},
		{[][]int{{2, 0}, {0, 2}}, 0, 1, 0, 2, api.OK},
		{[][]int{{0, 2}, {2, 0}, {9, 0}}, 1, 1, 1, 0, api.OK},
		{[][]int{{0, 10000}, {10000, 0}}, 0, 1, 0, 10000, api.OK},
		{rows(12, 20), 0, 19, 0, 0, api.OK},
		{three(), 2, 1, 0, 0, api.ErrUnknown},
		{three(), 0, 4, 0, 0, api.ErrUnknown},
		{three(), 4, 4, 0, 0, api.ErrUnknown},
		{three(), -1, 0, 0, 0, api.ErrUnknown},
		{three(), -2, -1, 0, 0, api.ErrUnknown},
		{three(), math.MinInt, math.MaxInt, 0, 0, api.ErrUnknown},
		{three(), math.MaxInt, math.MaxInt, 0, 0, api.ErrUnknown},
	} {
		if wax, regret, e := ski.Wax(x.loss, x.from, x.to); wax != x.wax || regret != x.regret || e != x.e {
			t.Error(i, wax, regret, e)
		}
	}
}

// P5.5: regrets and waxes, as in the slow reading.
func TestWaxOfAll(t *testing.T) {
	g := rand.New(rand.NewSource(14))
	for range 1000 {
		loss := someTable(g, 1+g.Intn(5), 1+g.Intn(6))
		regrets, e := ski.Regrets(loss)
		for wax := range loss {
			for snow := range loss[wax] {
				if regrets[wax][snow] != regretOf(loss, wax, snow) || e != api.OK {
					t.Fatal(loss, regrets, e)
				}
			}
		}
		from := g.Intn(len(loss[0]))
		to := from + g.Intn(len(loss[0])-from)
		best, least := 0, math.MaxInt
		for wax := range loss {
			if n := slices.Max(regrets[wax][from : to+1]); n < least {
				best, least = wax, n
			}
		}
		if wax, regret, e := ski.Wax(loss, from, to); wax != best || regret != least || e != api.OK {
			t.Fatal(loss, from, to, wax, regret, e)
		}
	}
}

// P5.5: example 4 of the chapter, the first one of several bags, waxes that come again, and what is refused.
func TestBagAndZones(t *testing.T) {
	apart := [][]int{{0, 9, 9, 0}, {9, 0, 9, 0}, {9, 9, 0, 0}}
	for i, x := range []struct {
		loss  [][]int
		most  int
		bag   []int
		zones []ski.Zone
		e     api.Errno
	}{
		{three(), 1, []int{1, 2}, []ski.Zone{{From: 0, To: 2, Wax: 1}, {From: 3, To: 3, Wax: 2}}, api.OK},
		{three(), 0, []int{0, 1, 2}, []ski.Zone{{From: 0, To: 0, Wax: 0}, {From: 1, To: 1, Wax: 1}, {From: 2, To: 3, Wax: 2}}, api.OK},
		{three(), 2, []int{0, 2}, []ski.Zone{{From: 0, To: 2, Wax: 1}, {From: 3, To: 3, Wax: 2}}, api.OK},
		{three(), 6, []int{0, 2}, []ski.Zone{{From: 0, To: 2, Wax: 1}, {From: 3, To: 3, Wax: 2}}, api.OK},
		{three(), 7, []int{1}, []ski.Zone{{From: 0, To: 3, Wax: 1}}, api.OK},
		{three(), 8, []int{0}, []ski.Zone{{From: 0, To: 3, Wax: 0}}, api.OK},
		{three(), 10000, []int{0}, []ski.Zone{{From: 0, To: 3, Wax: 0}}, api.OK},
		{[][]int{{0, 9, 0}, {9, 0, 9}}, 3, []int{0, 1}, []ski.Zone{{From: 0, To: 0, Wax: 0}, {From: 1, To: 1, Wax: 1}, {From: 2, To: 2, Wax: 0}}, api.OK},
		{apart, 0, []int{0, 1, 2}, []ski.Zone{{From: 0, To: 0, Wax: 0}, {From: 1, To: 1, Wax: 1}, {From: 2, To: 3, Wax: 2}}, api.OK},
		{[][]int{{9, 0}, {0, 9}, {0, 9}, {9, 0}}, 0, []int{0, 1}, []ski.Zone{{From: 0, To: 0, Wax: 1}, {From: 1, To: 1, Wax: 0}}, api.OK},
		{[][]int{{9, 9, 0}, {0, 0, 9}, {0, 9, 0}, {9, 0, 0}}, 0, []int{0, 1}, []ski.Zone{{From: 0, To: 1, Wax: 1}, {From: 2, To: 2, Wax: 0}}, api.OK},
		{[][]int{{5}}, 0, []int{0}, []ski.Zone{{From: 0, To: 0, Wax: 0}}, api.OK},
		{[][]int{{5}, {4}}, 0, []int{1}, []ski.Zone{{From: 0, To: 0, Wax: 1}}, api.OK},
		{rows(12, 20), 0, []int{0}, []ski.Zone{{From: 0, To: 19, Wax: 0}}, api.OK},
		{three(), 10001, nil, nil, api.ErrRange},
		{three(), -1, nil, nil, api.ErrRange},
		{three(), math.MinInt, nil, nil, api.ErrRange},
		{three(), math.MaxInt, nil, nil, api.ErrRange},
	} {
		bag, e := ski.Bag(x.loss, x.most)
		zones, f := ski.Zones(x.loss, x.most)
		breaks, g := ski.Breaks(x.loss, x.most)
		if !slices.Equal(bag, x.bag) || !slices.Equal(zones, x.zones) || len(breaks) != len(zones) || e != x.e || f != x.e || g != x.e {
			t.Error(i, bag, zones, breaks, e, f, g)
		}
		if e == api.OK && !areBreaks(x.loss, x.most, breaks) {
			t.Error(i, breaks)
		}
		if is, e := ski.BreaksShow(x.loss, x.most, breaks); is != (x.e == api.OK) || e != x.e {
			t.Error(i, is, e)
		}
	}
	if e := second(ski.BreaksShow(three(), -1, []int{99})); e != api.ErrRange {
		t.Error(e)
	}
}

// P5.5: bags, zones and breaks, as in the slow reading of all lists of waxes and all zones. P5.7: no
// more waxes are in a bag than there are zones.
func TestBagAndZonesOfAll(t *testing.T) {
	g := rand.New(rand.NewSource(15))
	for range 800 {
		loss, most := someTable(g, 1+g.Intn(6), 1+g.Intn(8)), g.Intn(7)
		bag, e := ski.Bag(loss, most)
		zones, f := ski.Zones(loss, most)
		breaks, h := ski.Breaks(loss, most)
		if !slices.Equal(bag, slowBag(loss, most)) || len(bag) > len(zones) || e != api.OK || f != api.OK || h != api.OK {
			t.Fatal(loss, most, bag, e, f, h)
		}
		if len(zones) != slowZones(loss, most) || len(breaks) != len(zones) || !areBreaks(loss, most, breaks) {
			t.Fatal(loss, most, zones, breaks)
		}
		from := 0
		for _, z := range zones {
			longest := z.To == len(loss[0])-1 || goodAll(loss, most, from, z.To+1) < 0
			if z.From != from || !longest || z.Wax != goodAll(loss, most, from, z.To) || z.Wax < 0 {
				t.Fatal(loss, most, zones)
			}
			from = z.To + 1
		}
		if from != len(loss[0]) {
			t.Fatal(loss, most, zones)
		}
	}
}

// P5.5: of any list of snows it is said whether they are breaks; and what is refused.
func TestBreaksShow(t *testing.T) {
	for i, x := range []struct {
		most   int
		breaks []int
		want   bool
		e      api.Errno
	}{
		{1, []int{0, 3}, true, api.OK},
		{1, []int{1, 3}, true, api.OK},
		{1, []int{2, 3}, false, api.OK},
		{1, []int{0, 2}, false, api.OK},
		{1, []int{0, 2, 3}, false, api.OK},
		{1, []int{3, 0}, false, api.OK},
		{1, []int{3, 3}, false, api.OK},
		{1, []int{0}, true, api.OK},
		{1, []int{3}, true, api.OK},
		{10000, []int{3}, true, api.OK},
		{10000, []int{0, 3}, false, api.OK},
		{1, nil, false, api.OK},
		{1, []int{}, false, api.OK},
		{0, []int{0, 1, 2}, true, api.OK},
		{0, []int{0, 1, 3}, true, api.OK},
		{0, []int{0, 1, 2, 3}, false, api.OK},
		{0, []int{0, 1, 1}, false, api.OK},
		{0, []int{0, 2, 1}, false, api.OK},
		{1, []int{0, 4}, false, api.ErrUnknown},
		{1, []int{-1, 3}, false, api.ErrUnknown},
		{1, []int{3, 0, 4}, false, api.ErrUnknown},
		{1, []int{math.MinInt}, false, api.ErrUnknown},
		{1, []int{0, math.MaxInt}, false, api.ErrUnknown},
		{-1, []int{0, 4}, false, api.ErrRange},
		{10001, []int{0, 4}, false, api.ErrRange},
	} {
		if got, e := ski.BreaksShow(three(), x.most, x.breaks); got != x.want || e != x.e {
			t.Error(i, got, e)
		}
	}
}

// P5.5: lists of snows, as in the slow reading: none of breaks is longer than there are zones.
func TestBreaksShowAllLists(t *testing.T) {
	g := rand.New(rand.NewSource(16))
	for range 150 {
		loss, most := someTable(g, 1+g.Intn(5), 1+g.Intn(6)), g.Intn(5)
		zones, _ := ski.Zones(loss, most)
		for _, list := range sets(len(loss[0])) {
			want := areBreaks(loss, most, list)
			if got, e := ski.BreaksShow(loss, most, list); got != want || want && len(list) > len(zones) || e != api.OK {
				t.Fatal(loss, most, list, got, e)
			}
		}
	}
}
