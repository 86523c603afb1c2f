package start_test

import (
	"cmp"
	"math"
	"math/rand"
	"slices"
	"testing"

	"klister/api"
	"klister/start"
)

// four are the results of the chapter's third example.
func four() []start.Result {
	return []start.Result{{Bib: 7, Time: 12345}, {Bib: 8, Time: 12345}, {Bib: 9, Time: 12399}, {Bib: 4, Time: 13000}}
}

// many returns so many results, each a tenth later than the one before.
func many(n int) []start.Result {
	l := make([]start.Result, n)
	for i := range l {
		l[i] = start.Result{Bib: i + 1, Time: i}
	}
	return l
}

// P2.4: start lists of orders.
func TestInterval(t *testing.T) {
	for i, x := range []struct {
		f        []start.Skier
		order    []int
		interval int
		want     []start.Start
	}{
		{five(), []int{4, 2, 0, 1, 3}, 300, []start.Start{{Bib: 5}, {Bib: 3, Time: 300}, {Bib: 1, Time: 600}, {Bib: 2, Time: 900}, {Bib: 4, Time: 1200}}},
		{five(), []int{0, 1, 2, 3, 4}, 1, []start.Start{{Bib: 1}, {Bib: 2, Time: 1}, {Bib: 3, Time: 2}, {Bib: 4, Time: 3}, {Bib: 5, Time: 4}}},
		{ofNations(1, 2), []int{1, 0}, 360000, []start.Start{{Bib: 2}, {Bib: 1, Time: 360000}}},
		{[]start.Skier{{Bib: 999, Rank: 1}}, []int{0}, 360000, []start.Start{{Bib: 999}}},
	} {
		got, e := start.Interval(x.f, x.order, x.interval)
		if !slices.Equal(got, x.want) || e != api.OK || start.CheckList(got) != api.OK {
			t.Error(i, got, e)
		}
	}
}

// P2.4: the interval at the ends of what is allowed, also by the last start.
func TestIntervalRefuses(t *testing.T) {
	for i, x := range []struct {
		skiers, interval int
		want             api.Errno
	}{
		{1, 1, api.OK}, {1, 360000, api.OK}, {1, 360001, api.ErrRange}, {1, 0, api.ErrRange}, {1, -1, api.ErrRange},
		{2, 360000, api.OK}, {2, 360001, api.ErrRange}, {3, 180000, api.OK}, {3, 180001, api.ErrRange}, {3, 360000, api.ErrRange},
		{5, 90000, api.OK}, {5, 90001, api.ErrRange}, {60, 6101, api.OK}, {60, 6102, api.ErrRange},
		{60, math.MaxInt, api.ErrRange}, {60, math.MinInt, api.ErrRange}, {5, math.MaxInt/4 + 1, api.ErrRange},
	} {
		order, _ := start.Ranked(single(x.skiers))
		got, e := start.Interval(single(x.skiers), order, x.interval)
		if e != x.want || (e == api.OK) != (len(got) == x.skiers) || e != api.OK && len(got) > 0 {
			t.Error(i, got, e)
		}
	}
}

// P2.5: example 3 of the chapter, and other rules and times.
func TestPursuit(t *testing.T) {
	limits := []start.Result{{Bib: 1, Time: 360000}, {Bib: 2, Time: 0}}
	turned := []start.Result{{Bib: 3, Time: 59}, {Bib: 1, Time: 52}, {Bib: 2, Time: 50}, {Bib: 9, Time: 50}, {Bib: 5, Time: 60}}
	for i, x := range []struct {
		l        []start.Result
		r        start.Rules
		deficits []int
		bibs     []int
	}{
		{four(), start.Rules{Unit: 10, Limit: 360000}, []int{0, 0, 50, 650}, []int{7, 8, 9, 4}},
		{four(), start.Rules{Unit: 10, Limit: 600}, []int{0, 0, 50, 600}, []int{7, 8, 9, 4}},
		{four(), start.Rules{Unit: 10, Limit: 650}, []int{0, 0, 50, 650}, []int{7, 8, 9, 4}},
		{four(), start.Rules{Unit: 10, Limit: 649}, []int{0, 0, 50, 649}, []int{7, 8, 9, 4}},
		{four(), start.Rules{Unit: 1, Limit: 360000}, []int{0, 0, 54, 655}, []int{7, 8, 9, 4}},
		{four(), start.Rules{Unit: 600, Limit: 360000}, []int{0, 0, 0, 600}, []int{7, 8, 9, 4}},
		{four(), start.Rules{Unit: 54, Limit: 360000}, []int{0, 0, 54, 648}, []int{7, 8, 9, 4}},
		{four(), start.Rules{Unit: 10}, []int{0, 0, 0, 0}, []int{7, 8, 9, 4}},
		{turned, start.Rules{Unit: 10, Limit: 360000}, []int{0, 0, 0, 0, 10}, []int{2, 9, 1, 3, 5}},
		{turned, start.Rules{Unit: 2, Limit: 3}, []int{3, 2, 0, 0, 3}, []int{2, 9, 1, 3, 5}},
		{limits, start.Rules{Unit: 1, Limit: 360000}, []int{360000, 0}, []int{2, 1}},
		{limits, start.Rules{Unit: 7, Limit: 360000}, []int{359996, 0}, []int{2, 1}},
		{limits[:1], start.Rules{Unit: 1, Limit: 360000}, []int{0}, []int{1}},
		{nil, start.Rules{Unit: 1}, nil, nil},
	} {
		deficits, e := start.Deficits(x.l, x.r)
		list, g := start.Pursuit(x.l, x.r)
		var bibs []int
		for _, s := range list {
			bibs = append(bibs, s.Bib)
			place := slices.IndexFunc(x.l, func(y start.Result) bool { return y.Bib == s.Bib })
			if place < 0 || s.Time != x.deficits[place] || s.Gate != 0 {
				t.Error(i, s)
			}
		}
		if !slices.Equal(deficits, x.deficits) || !slices.Equal(bibs, x.bibs) || e != api.OK || g != api.OK || start.CheckList(list) != api.OK {
			t.Error(i, deficits, list, e, g)
		}
	}
}

// P2.5: the errors of results and rules, in their order.
func TestPursuitRefuses(t *testing.T) {
	for i, x := range []struct {
		change func(l []start.Result, r *start.Rules) []start.Result
		want   api.Errno
	}{
		{func(l []start.Result, r *start.Rules) []start.Result { return many(60) }, api.OK},
		{func(l []start.Result, r *start.Rules) []start.Result { return many(61) }, api.ErrCount},
		{func(l []start.Result, r *start.Rules) []start.Result { r.Unit = 0; return make([]start.Result, 61) }, api.ErrCount},
		{func(l []start.Result, r *start.Rules) []start.Result { l[3].Bib = 0; return l }, api.ErrRange},
		{func(l []start.Result, r *start.Rules) []start.Result { l[3].Bib = 999; return l }, api.OK},
		{func(l []start.Result, r *start.Rules) []start.Result { l[3].Bib = 1000; return l }, api.ErrRange},
		{func(l []start.Result, r *start.Rules) []start.Result { l[3].Time = -1; return l }, api.ErrRange},
		{func(l []start.Result, r *start.Rules) []start.Result { l[3].Time = 360001; return l }, api.ErrRange},
		{func(l []start.Result, r *start.Rules) []start.Result { l[3].Time = math.MinInt; return l }, api.ErrRange},
		{func(l []start.Result, r *start.Rules) []start.Result { l[1].Bib = 7; r.Unit = 0; return l }, api.ErrRange},
		{func(l []start.Result, r *start.Rules) []start.Result { r.Unit = 601; return nil }, api.ErrRange},
		{func(l []start.Result, r *start.Rules) []start.Result { r.Unit = math.MinInt; return l }, api.ErrRange},
		{func(l []start.Result, r *start.Rules) []start.Result { l[1].Bib = 7; r.Limit = -1; return l }, api.ErrRange},
		{func(l []start.Result, r *start.Rules) []start.Result { r.Limit = 360001; return nil }, api.ErrRange},
		{func(l []start.Result, r *start.Rules) []start.Result { r.Limit = math.MaxInt; return l }, api.ErrRange},
		{func(l []start.Result, r *start.Rules) []start.Result { l[3].Bib = 7; return l }, api.ErrTwice},
	} {
		r := start.Rules{Unit: 10, Limit: 600}
		l := x.change(four(), &r)
		deficits, e := start.Deficits(l, r)
		list, g := start.Pursuit(l, r)
		if e != x.want || g != x.want || e != api.OK && len(deficits)+len(list) > 0 {
			t.Error(i, deficits, list, e, g)
		}
	}
}

// P2.5 and P2.10: deficits of random results are exact, and ties are as the rules have them.
func TestPursuitOfRandomResults(t *testing.T) {
	g := rand.New(rand.NewSource(4))
	for range 1000 {
		var l []start.Result
		for _, bib := range distinct(g, g.Intn(61), start.MaxBib) {
			l = append(l, start.Result{Bib: bib, Time: 100 + g.Intn(30)})
		}
		r := start.Rules{Unit: 1 + g.Intn(9), Limit: g.Intn(30)}
		deficits, e := start.Deficits(l, r)
		list, f := start.Pursuit(l, r)
		if len(deficits) != len(l) || len(list) != len(l) || e != api.OK || f != api.OK {
			t.Fatal(l, r, deficits, list, e, f)
		}
		places := make([]int, len(l))
		for i, x := range l {
			places[i] = i
			want := x.Time - slices.MinFunc(l, func(a, b start.Result) int { return a.Time - b.Time }).Time
			for want%r.Unit != 0 {
				want--
			}
			if want > r.Limit {
				want = r.Limit
			}
			if deficits[i] != want {
				t.Fatal(l, r, deficits, i, want)
			}
		}
		slices.SortFunc(places, func(a, b int) int {
			return cmp.Or(deficits[a]-deficits[b], l[a].Time-l[b].Time, a-b)
		})
		for i, place := range places {
			if list[i] != (start.Start{Bib: l[place].Bib, Time: deficits[place]}) {
				t.Fatal(l, r, list)
			}
		}
	}
}

// P2.4 and P2.5: arguments are not modified, and results are new (R4).
func TestPursuitMemory(t *testing.T) {
	l, f, order := four(), five(), []int{4, 3, 2, 1, 0}
	slices.Reverse(l)
	want := slices.Clone(l)
	for i := range 2 {
		list, _ := start.Pursuit(l, start.Rules{Unit: 10, Limit: 600})
		deficits, _ := start.Deficits(l, start.Rules{Unit: 10, Limit: 600})
		start.Interval(f, order, 300)
		if !slices.Equal(deficits, []int{600, 50, 0, 0}) || len(list) != 4 || list[0].Bib != 8 {
			t.Error(i, deficits, list)
		}
		clear(list)
		clear(deficits)
	}
	if !slices.Equal(l, want) || !slices.Equal(f, five()) || !slices.Equal(order, []int{4, 3, 2, 1, 0}) {
		t.Error("an argument is modified", l, f, order)
	}
}
