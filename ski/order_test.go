package ski_test

import (
	"math/rand"
	"slices"
	"testing"

	"klister/api"
	"klister/ski"
)

// P5.3: example 1 of the chapter, no runs at all, one order, and rounds.
func TestOrders(t *testing.T) {
	any3 := span(1, 3)
	for i, x := range []struct {
		l      ski.Lab
		places []api.Span
		orders int
		first  []int
		e      api.Errno
	}{
		{four(), []api.Span{span(1, 1), span(2, 3), span(3, 4), span(2, 4)}, 3, []int{0, 1, 2, 3}, api.OK},
		{lab(1), []api.Span{span(1, 1)}, 1, []int{0}, api.OK},
		{lab(3), []api.Span{any3, any3, any3}, 6, []int{0, 1, 2}, api.OK},
		{lab(3, run(2, 0, 1)), []api.Span{span(2, 3), any3, span(1, 2)}, 3, []int{1, 2, 0}, api.OK},
		{lab(3, run(2, 0, 1), run(1, 0, 1)), []api.Span{span(3, 3), span(1, 2), span(1, 2)}, 2, []int{1, 2, 0}, api.OK},
		{lab(3, run(2, 0, 1), run(2, 1, 1)), []api.Span{span(2, 3), span(2, 3), span(1, 1)}, 2, []int{2, 0, 1}, api.OK},
		{four(run(3, 1, 6)), []api.Span{span(1, 1), span(3, 3), span(4, 4), span(2, 2)}, 1, []int{0, 3, 1, 2}, api.OK},
		{four(run(3, 1, 5)), []api.Span{span(1, 1), span(2, 3), span(3, 4), span(2, 4)}, 3, []int{0, 1, 2, 3}, api.OK},
		{lab(4, run(3, 2, 1), run(1, 0, 1)), []api.Span{span(2, 4), span(1, 3), span(2, 4), span(1, 3)}, 6, []int{1, 0, 3, 2}, api.OK},
		{lab(8), slices.Repeat([]api.Span{span(1, 8)}, 8), 40320, []int{0, 1, 2, 3, 4, 5, 6, 7}, api.OK},
		{round(), nil, 0, nil, api.ErrConflict},
		{lab(2, run(0, 1, 1), run(1, 0, 1)), nil, 0, nil, api.ErrConflict},
		{lab(8, run(6, 7, 1), run(7, 6, 1)), nil, 0, nil, api.ErrConflict},
	} {
		places, e := ski.Places(x.l)
		orders, f := ski.Orders(x.l)
		first, g := ski.First(x.l)
		if !slices.Equal(places, x.places) || orders != x.orders || !slices.Equal(first, x.first) || e != x.e || f != x.e || g != x.e {
			t.Error(i, places, orders, first, e, f, g)
		}
	}
}

// P5.3: places, the number of orders and the first one, as in the slow reading of all orders.
func TestOrdersOfAll(t *testing.T) {
	g := rand.New(rand.NewSource(6))
	for range 1200 {
		l := someLab(g, 1+g.Intn(5), 6)
		p, e := ski.Places(l)
		n, f := ski.Orders(l)
		first, h := ski.First(l)
		if contradictory(l) {
			if len(p) > 0 || n != 0 || len(first) > 0 || e != api.ErrConflict || f != api.ErrConflict || h != api.ErrConflict {
				t.Fatal(l, p, n, first, e, f, h)
			}
			continue
		}
		all := fitting(l)
		if !slices.Equal(p, places(all)) || n != len(all) || !slices.Equal(first, all[0]) || e != api.OK || f != api.OK || h != api.OK {
			t.Fatal(l, p, n, first, e, f, h)
		}
	}
}

// P5.3: the same for six and seven skis, and with runs that leave few orders.
func TestOrdersOfMoreSkis(t *testing.T) {
	g := rand.New(rand.NewSource(7))
	for range 15 {
		l := someSound(g, 6+g.Intn(2), 14)
		all := fitting(l)
		p, _ := ski.Places(l)
		n, _ := ski.Orders(l)
		first, e := ski.First(l)
		if !slices.Equal(p, places(all)) || n != len(all) || !slices.Equal(first, all[0]) || e != api.OK {
			t.Fatal(l, p, n, first, e)
		}
	}
}

// P5.7: each place between both ends of a span is that of some order that fits.
func TestPlacesBetween(t *testing.T) {
	g := rand.New(rand.NewSource(8))
	for range 300 {
		l := someSound(g, 1+g.Intn(5), 6)
		all := fitting(l)
		spans, _ := ski.Places(l)
		for s, where := range spans {
			for place := where.Lo; place <= where.Hi; place++ {
				if !slices.ContainsFunc(all, func(order []int) bool { return order[place-1] == s }) {
					t.Fatal(l, s, place)
				}
			}
		}
	}
}

// P5.7: a run more never adds an order that fits.
func TestRunMore(t *testing.T) {
	g := rand.New(rand.NewSource(9))
	for range 2000 {
		l := someSound(g, 2+g.Intn(7), 12)
		a := g.Intn(l.Skis)
		m := more(l, run(a, (a+1+g.Intn(l.Skis-1))%l.Skis, g.Intn(9)-4))
		n, e := ski.Orders(l)
		after, f := ski.Orders(m)
		if e != api.OK || after > n || f == api.OK && after == 0 {
			t.Fatal(l, m, n, after, e, f)
		}
		if f != api.OK {
			continue
		}
		wide, _ := ski.Places(l)
		narrow, _ := ski.Places(m)
		for s := range wide {
			if narrow[s].Lo < wide[s].Lo || narrow[s].Hi > wide[s].Hi {
				t.Fatal(l, m, wide, narrow)
			}
		}
	}
}
