package start_test

import (
	"math"
	"math/rand"
	"slices"
	"testing"

	"klister/api"
	"klister/start"
)

// drawn is a start list with gates, in which two start together.
func drawn() []start.Start {
	return []start.Start{{Bib: 1, Time: 10, Gate: 3}, {Bib: 2, Time: 10}, {Bib: 3, Time: 30, Gate: 1}, {Bib: 4, Time: 50}}
}

// P2.8: who withdraws is taken from the list, and nobody else moves.
func TestWithdraw(t *testing.T) {
	l := drawn()
	for i, x := range []struct {
		l    []start.Start
		bib  int
		want []start.Start
		e    api.Errno
	}{
		{l, 1, []start.Start{l[1], l[2], l[3]}, api.OK},
		{l, 2, []start.Start{l[0], l[2], l[3]}, api.OK},
		{l, 4, []start.Start{l[0], l[1], l[2]}, api.OK},
		{l[:1], 1, nil, api.OK},
		{l, 5, nil, api.ErrUnknown},
		{l, 0, nil, api.ErrUnknown},
		{l, math.MinInt, nil, api.ErrUnknown},
		{l, 1000, nil, api.ErrUnknown},
		{nil, 1, nil, api.ErrUnknown},
	} {
		if got, e := start.Withdraw(x.l, x.bib); !slices.Equal(got, x.want) || e != x.e {
			t.Error(i, got, e)
		}
	}
}

// P2.8: who enters gets the first free time, and nobody else moves.
func TestEnter(t *testing.T) {
	l := drawn()
	for i, x := range []struct {
		l           []start.Start
		interval    int
		place, time int
	}{
		{l, 20, 4, 70},
		{l, 10, 2, 20},
		{l, 40, 4, 90},
		{l, 7, 2, 17},
		{l, 1, 2, 11},
		{l, 30, 3, 40},
		{l, 359990, 4, 360000},
		{nil, 300, 0, 0},
		{nil, 360000, 0, 0},
		{timed(0, 0, 0), 5, 3, 5},
		{timed(0, 4, 5, 5, 6, 10), 5, 6, 15},
		{timed(3, 4), 2, 2, 5},
		{timed(360000), 1, -1, 0},
		{timed(0, 360000), 360000, -1, 0},
		{timed(1), 360000, -1, 0},
		{timed(0), 360000, 1, 360000},
	} {
		got, e := start.Enter(x.l, 999, x.interval)
		if x.place < 0 {
			if len(got) > 0 || e != api.ErrLarge {
				t.Error(i, got, e)
			}
			continue
		}
		want := slices.Insert(slices.Clone(x.l), x.place, start.Start{Bib: 999, Time: x.time})
		if !slices.Equal(got, want) || e != api.OK || start.CheckList(got) != api.OK {
			t.Error(i, got, e)
		}
	}
}

// P2.8: the errors of Enter, in their order.
func TestEnterRefuses(t *testing.T) {
	full := make([]int, 60)
	for i := range full {
		full[i] = 359941 + i
	}
	for i, x := range []struct {
		l             []start.Start
		bib, interval int
		want          api.Errno
	}{
		{drawn(), 0, 20, api.ErrRange},
		{drawn(), 1000, 20, api.ErrRange},
		{drawn(), math.MinInt, 20, api.ErrRange},
		{drawn(), 3, 0, api.ErrRange},
		{drawn(), 3, -1, api.ErrRange},
		{drawn(), 3, 360001, api.ErrRange},
		{timed(full...), 3, math.MaxInt, api.ErrRange},
		{drawn(), 3, 20, api.ErrTwice},
		{drawn(), 1, 20, api.ErrTwice},
		{drawn(), 4, 20, api.ErrTwice},
		{drawn(), 3, 360000, api.ErrTwice},
		{timed(full...), 60, 1, api.ErrTwice},
		{timed(full...), 61, 1, api.ErrCount},
		{timed(full[1:]...), 61, 1, api.ErrLarge},
		{timed(full[:59]...), 61, 1, api.OK},
		{drawn(), 9, 360000, api.ErrLarge},
		{drawn(), 9, 359991, api.ErrLarge},
		{drawn(), 999, 20, api.OK},
		{drawn(), 9, 359990, api.OK},
	} {
		if got, e := start.Enter(x.l, x.bib, x.interval); e != x.want || e != api.OK && len(got) > 0 {
			t.Error(i, got, e)
		}
	}
}

// P2.8 and P2.10: random changes move nobody else.
func TestChangesMoveNobody(t *testing.T) {
	g := rand.New(rand.NewSource(7))
	for range 3000 {
		l, interval := someList(g, g.Intn(20), 1+g.Intn(40)), 1+g.Intn(8)
		for n, s := range l {
			want := slices.Delete(slices.Clone(l), n, n+1)
			if got, e := start.Withdraw(l, s.Bib); !slices.Equal(got, want) || e != api.OK {
				t.Fatal(l, s, got, e)
			}
		}
		bib := 1
		for slices.ContainsFunc(l, func(s start.Start) bool { return s.Bib == bib }) {
			bib++
		}
		got, e := start.Enter(l, bib, interval)
		place := slices.Index(got, start.Start{Bib: bib, Time: enteredAt(l, interval)})
		if e != api.OK || place < 0 || start.CheckList(got) != api.OK || !slices.Equal(slices.Delete(got, place, place+1), l) {
			t.Fatal(l, bib, interval, got, e)
		}
	}
}

// P2.8: arguments are not modified, not even behind their ends, and results are new (R4).
func TestChangeMemory(t *testing.T) {
	l := drawn()
	for i := range 2 {
		less, _ := start.Withdraw(l, 1)
		more, _ := start.Enter(l[:2], 9, 10)
		if len(less) != 3 || len(more) != 3 {
			t.Error(i, less, more)
		}
		clear(less)
		clear(more)
	}
	if !slices.Equal(l, drawn()) {
		t.Error("an argument is modified", l)
	}
}
