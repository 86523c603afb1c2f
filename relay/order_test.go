package relay_test

import (
	"math"
	"math/rand"
	"slices"
	"testing"

	"klister/api"
	"klister/relay"
)

// P8.6: squads at the ends of what is allowed.
func TestCheckSquadAllows(t *testing.T) {
	eight := relay.Squad{Classes: []int{0, 1, 2, 3, 0, 1, 2, 3}, Times: slices.Repeat([][]int{{0, 100000}}, 8)}
	for i, s := range []relay.Squad{trio(), eight, {Classes: []int{3}, Times: [][]int{{100000, 0}}}} {
		if e := relay.CheckSquad(two(), s); e != api.OK {
			t.Error(i, e)
		}
	}
}

// P8.6: what is not allowed in a squad, in all functions, and which error is first.
func TestSquadErrors(t *testing.T) {
	for i, x := range []struct {
		change func(s *relay.Squad)
		e      api.Errno
	}{
		{func(s *relay.Squad) { *s = relay.Squad{} }, api.ErrCount},
		{func(s *relay.Squad) { s.Classes = []int{} }, api.ErrCount},
		{func(s *relay.Squad) { s.Classes, s.Times = make([]int, 9), slices.Repeat([][]int{{1, 2}}, 9) }, api.ErrCount},
		{func(s *relay.Squad) { s.Times = nil }, api.ErrCount},
		{func(s *relay.Squad) { s.Times = s.Times[:2]; s.Classes[0] = -1 }, api.ErrCount},
		{func(s *relay.Squad) { s.Classes = s.Classes[:2] }, api.ErrCount},
		{func(s *relay.Squad) { s.Times[2] = []int{1}; s.Times[0][0] = -1 }, api.ErrCount},
		{func(s *relay.Squad) { s.Times[2] = []int{1, 2, 3} }, api.ErrCount},
		{func(s *relay.Squad) { s.Times[2] = nil }, api.ErrCount},
		{func(s *relay.Squad) { s.Classes[2] = -1 }, api.ErrRange},
		{func(s *relay.Squad) { s.Classes[2] = 4 }, api.ErrRange},
		{func(s *relay.Squad) { s.Times[2][1] = -1 }, api.ErrRange},
		{func(s *relay.Squad) { s.Times[2][1] = 100001 }, api.ErrRange},
		{func(s *relay.Squad) { s.Times[0][0] = math.MaxInt }, api.ErrRange},
		{func(s *relay.Squad) { s.Times[0][0] = math.MinInt }, api.ErrRange},
	} {
		s := trio()
		x.change(&s)
		for k, e := range squadErrors(two(), s) {
			if e != x.e {
				t.Error(i, k, e)
			}
		}
	}
}

// P8.6: how long an order takes, and what is no order.
func TestTakes(t *testing.T) {
	twice := relay.Rules{Classes: []int{0, 0, 0}, Each: 2, Laps: 1}
	pair := relay.Squad{Classes: []int{0, 0}, Times: [][]int{{1, 10, 100}, {2, 20, 200}}}
	for i, x := range []struct {
		p     relay.Rules
		s     relay.Squad
		order []int
		want  int
		e     api.Errno
	}{
		{two(), trio(), []int{2, 1}, 4650, api.OK},
		{two(), trio(), []int{0, 1}, 4700, api.OK},
		{twice, pair, []int{0, 1, 0}, 121, api.OK},
		{twice, pair, []int{1, 1, 0}, 122, api.OK},
		{two(), trio(), nil, 0, api.ErrCount},
		{two(), trio(), []int{2}, 0, api.ErrCount},
		{two(), trio(), []int{2, 1, -1}, 0, api.ErrCount},
		{two(), trio(), []int{1, 3}, 0, api.ErrUnknown},
		{two(), trio(), []int{-1, 1}, 0, api.ErrUnknown},
		{two(), trio(), []int{math.MaxInt, math.MinInt}, 0, api.ErrUnknown},
		{two(), trio(), []int{1, 1}, 0, api.ErrWrong},
		{two(), trio(), []int{2, 0}, 0, api.ErrWrong},
		{twice, pair, []int{0, 0, 0}, 0, api.ErrWrong},
		{twice, pair, []int{1, 1, 1}, 0, api.ErrWrong},
	} {
		if time, e := relay.Takes(x.p, x.s, x.order); time != x.want || e != x.e {
			t.Error(i, time, e)
		}
	}
}

// isBest compares all that is said of the orders of a squad with all orders,
// and reports whether there is one.
func isBest(t *testing.T, p relay.Rules, s relay.Squad) bool {
	t.Helper()
	orders, times := ordersOf(p, s)
	best, time, e := relay.Best(p, s)
	legs, skiers, f := relay.Prices(p, s)
	if len(orders) == 0 {
		if best != nil || time != 0 || e != api.ErrNone || legs != nil || skiers != nil || f != api.ErrNone {
			t.Fatal(p, s, best, time, e, legs, skiers, f)
		}
		return false
	}
	least := slices.Min(times)
	if first := orders[slices.Index(times, least)]; !slices.Equal(best, first) || time != least || e != api.OK {
		t.Fatal(p, s, best, time, e, first)
	}
	own, e := relay.Takes(p, s, best)
	sum, holds := provenBy(p, s, legs, skiers)
	proven, h := relay.Proves(p, s, legs, skiers)
	if own != least || e != api.OK || f != api.OK || !holds || sum != least || proven != least || h != api.OK || len(legs) != len(p.Classes) || len(skiers) != len(s.Classes) {
		t.Fatal(p, s, own, e, legs, skiers, f, proven, h)
	}
	return true
}

// isLoss compares the losses of all skiers with all orders.
func isLoss(t *testing.T, p relay.Rules, s relay.Squad) {
	t.Helper()
	orders, times := ordersOf(p, s)
	best, time, _ := relay.Best(p, s)
	for skier := range s.Classes {
		var without []int
		for k, order := range orders {
			if !slices.Contains(order, skier) {
				without = append(without, times[k])
			}
		}
		loss, e := relay.Loss(p, s, skier)
		switch {
		case len(without) == 0:
			if loss != 0 || e != api.ErrNone {
				t.Fatal(p, s, skier, loss, e)
			}
		case loss != slices.Min(without)-time || e != api.OK:
			t.Fatal(p, s, skier, loss, e)
		case !slices.Contains(best, skier) && loss != 0:
			t.Fatal(p, s, skier, loss, best)
		}
	}
}

// P8.6: the fourth example.
func TestTrio(t *testing.T) {
	p, s := two(), trio()
	if best, time, e := relay.Best(p, s); !slices.Equal(best, []int{2, 1}) || time != 4650 || e != api.OK {
		t.Error(best, time, e)
	}
	if proven, e := relay.Proves(p, s, []int{2250, 2400}, []int{0, 0, 0}); proven != 4650 || e != api.OK {
		t.Error(proven, e)
	}
	for skier, x := range []struct {
		loss int
		e    api.Errno
	}{{0, api.OK}, {0, api.ErrNone}, {50, api.OK}} {
		if loss, e := relay.Loss(p, s, skier); loss != x.loss || e != x.e {
			t.Error(skier, loss, e)
		}
	}
	isBest(t, p, s)
	isLoss(t, p, s)
}

// P8.6: who is no skier of a squad, ahead of ErrNone.
func TestLossErrors(t *testing.T) {
	for _, s := range []relay.Squad{trio(), {Classes: []int{0}, Times: [][]int{{1, 2}}}} {
		for _, skier := range []int{-1, len(s.Classes), math.MinInt, math.MaxInt} {
			if loss, e := relay.Loss(two(), s, skier); loss != 0 || e != api.ErrUnknown {
				t.Error(skier, loss, e)
			}
		}
	}
	// nobody else, and no order at all
	alone := relay.Rules{Classes: []int{0}, Each: 1, Laps: 1}
	for i, x := range []struct {
		p relay.Rules
		s relay.Squad
	}{
		{alone, relay.Squad{Classes: []int{0}, Times: [][]int{{5}}}},
		{alone, relay.Squad{Classes: []int{1, 1}, Times: [][]int{{5}, {6}}}},
	} {
		if loss, e := relay.Loss(x.p, x.s, 0); loss != 0 || e != api.ErrNone {
			t.Error(i, loss, e)
		}
	}
}

// P8.6: of several orders that take least the first one, and skiers who ski
// more than one leg.
func TestBest(t *testing.T) {
	rules := func(each int, classes ...int) relay.Rules {
		return relay.Rules{Classes: classes, Each: each, Laps: 1}
	}
	even := relay.Squad{Classes: []int{0, 0, 0}, Times: [][]int{{5, 5, 5}, {5, 5, 5}, {5, 5, 5}}}
	fast := relay.Squad{Classes: []int{0, 0, 0}, Times: [][]int{{9, 9, 9}, {3, 1, 2}, {4, 4, 5}}}
	for i, x := range []struct {
		p    relay.Rules
		s    relay.Squad
		want []int
		time int
		e    api.Errno
	}{
		{rules(1, 0, 0, 0), even, []int{0, 1, 2}, 15, api.OK},
		{rules(2, 0, 0, 0), even, []int{0, 0, 1}, 15, api.OK},
		{rules(3, 0, 0, 0), even, []int{0, 0, 0}, 15, api.OK},
		{rules(1, 0, 0, 0), fast, []int{2, 1, 0}, 14, api.OK},
		{rules(2, 0, 0, 0), fast, []int{2, 1, 1}, 7, api.OK},
		{rules(4, 0, 0, 0), fast, []int{1, 1, 1}, 6, api.OK},
		{rules(1, 0, 1, 0), even, nil, 0, api.ErrNone},
		{rules(1, 0, 0, 0), relay.Squad{Classes: []int{0, 0}, Times: even.Times[:2]}, nil, 0, api.ErrNone},
		{rules(1, 3, 2), relay.Squad{Classes: []int{2, 3}, Times: [][]int{{0, 7}, {0, 0}}}, []int{1, 0}, 7, api.OK},
		{rules(1, 0, 0), relay.Squad{Classes: []int{0, 0}, Times: [][]int{{0, 0}, {0, 0}}}, []int{0, 1}, 0, api.OK},
	} {
		if best, time, e := relay.Best(x.p, x.s); !slices.Equal(best, x.want) || time != x.time || e != x.e {
			t.Error(i, best, time, e)
		}
		isBest(t, x.p, x.s)
		isLoss(t, x.p, x.s)
	}
}

// P8.6: what prices prove, and which do not.
func TestProves(t *testing.T) {
	for i, x := range []struct {
		legs, skiers []int
		want         int
		e            api.Errno
	}{
		{[]int{2250, 2400}, []int{0, 0, 0}, 4650, api.OK},
		{[]int{2251, 2400}, []int{0, 0, 0}, 0, api.ErrWrong},
		{[]int{2250, 2401}, []int{0, 0, 0}, 0, api.ErrWrong},
		{[]int{2260, 2400}, []int{0, 0, 10}, 4650, api.OK},
		{[]int{2250, 2500}, []int{0, 100, 0}, 4650, api.OK},
		{[]int{2300, 2400}, []int{0, 0, 50}, 4650, api.OK},
		{[]int{2301, 2400}, []int{0, 0, 51}, 0, api.ErrWrong},
		{[]int{0, 0}, []int{0, 0, 0}, 0, api.OK},
		{[]int{-5, -1000000}, []int{1, 0, 1000000}, -5 - 1000000 - 1 - 1000000, api.OK},
		{[]int{1000000, 1000000}, []int{1000000, 1000000, 1000000}, -1000000, api.OK},
		{[]int{-9, -9}, []int{0, -1, 0}, 0, api.ErrWrong},
		{[]int{-9, -9}, []int{0, -1000000, 0}, 0, api.ErrWrong},
		{[]int{2250}, []int{0, 0, 0}, 0, api.ErrCount},
		{[]int{2250, 2400, 0}, []int{0, 0, -1}, 0, api.ErrCount},
		{[]int{2250, 2400}, []int{0, 0}, 0, api.ErrCount},
		{[]int{2250, math.MaxInt}, []int{0, 0, 0, 0}, 0, api.ErrCount},
		{nil, nil, 0, api.ErrCount},
		{[]int{2250, 1000001}, []int{0, 0, -1}, 0, api.ErrRange},
		{[]int{-1000001, 2400}, []int{0, 0, 0}, 0, api.ErrRange},
		{[]int{math.MinInt, 2400}, []int{0, 0, 0}, 0, api.ErrRange},
		{[]int{9999, 2400}, []int{0, 0, 1000001}, 0, api.ErrRange},
		{[]int{2250, 2400}, []int{-1000001, 0, 0}, 0, api.ErrRange},
		{[]int{2250, 2400}, []int{0, 0, math.MaxInt}, 0, api.ErrRange},
	} {
		if proven, e := relay.Proves(two(), trio(), x.legs, x.skiers); proven != x.want || e != x.e {
			t.Error(i, proven, e)
		}
	}
	// prices of skiers count as often as a skier may ski
	p := two()
	p.Each = 3
	if proven, e := relay.Proves(p, trio(), []int{2260, 2400}, []int{0, 0, 10}); proven != 4630 || e != api.OK {
		t.Error(proven, e)
	}
}

// P8.6 and P8.8: random prices that hold never prove more than the best order takes.
func TestProvesOfRandomPrices(t *testing.T) {
	g := rand.New(rand.NewSource(3))
	held, reached := 0, 0
	for range 20000 {
		p := someRules(g)
		s := someSquad(g, p, 4, 3)
		var legs, skiers []int
		for range p.Classes {
			legs = append(legs, g.Intn(5)-1)
		}
		for range s.Classes {
			skiers = append(skiers, g.Intn(5)-1)
		}
		sum, holds := provenBy(p, s, legs, skiers)
		proven, e := relay.Proves(p, s, legs, skiers)
		if !holds {
			if proven != 0 || e != api.ErrWrong {
				t.Fatal(p, s, legs, skiers, proven, e)
			}
			continue
		}
		if proven != sum || e != api.OK {
			t.Fatal(p, s, legs, skiers, proven, e)
		}
		held++
		if _, time, e := relay.Best(p, s); e == api.OK {
			if proven > time {
				t.Fatal(p, s, legs, skiers, proven, time)
			}
			if proven == time {
				reached++
			}
		}
	}
	if held < 500 || reached < 10 {
		t.Error("too few cases", held, reached)
	}
}

// P8.6 and P8.8: random squads, with all orders; a skier more never makes the
// best one longer.
func TestRandomSquads(t *testing.T) {
	g := rand.New(rand.NewSource(4))
	found := 0
	for range 4000 {
		p := someRules(g)
		s := someSquad(g, p, 6, []int{0, 2, 9, 100000}[g.Intn(4)])
		if !isBest(t, p, s) {
			continue
		}
		found++
		isLoss(t, p, s)
		_, time, _ := relay.Best(p, s)
		more := someSquad(g, p, 1, 5)
		s.Classes, s.Times = append(s.Classes, more.Classes...), append(s.Times, more.Times...)
		if _, less, e := relay.Best(p, s); less > time || e != api.OK {
			t.Fatal(p, s, less, time, e)
		}
	}
	if found < 1000 {
		t.Error("too few cases", found)
	}
}

// P8.6: the greatest squads, some of whose skiers are needed for legs on which
// they are slow, so that prices add up.
func TestGreatSquads(t *testing.T) {
	p := relay.Rules{Classes: make([]int, 4), Each: 1, Laps: 5}
	chain := relay.Squad{Classes: make([]int, 4), Times: [][]int{
		{0, 100000, 100000, 100000},
		{0, 100000, 100000, 100000},
		{0, 0, 100000, 100000},
		{0, 0, 0, 100000},
	}}
	isBest(t, p, chain)
	isLoss(t, p, chain)
	g := rand.New(rand.NewSource(5))
	for i := range 60 {
		p.Each = 1 + i%4
		var s relay.Squad
		for range 8 {
			var times []int
			for range 4 {
				times = append(times, []int{g.Intn(2) * 100000, g.Intn(100001)}[i%2])
			}
			s.Classes, s.Times = append(s.Classes, 0), append(s.Times, times)
		}
		isBest(t, p, s)
	}
}
