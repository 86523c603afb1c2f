package jury_test

import (
	"fmt"
	"math/rand"
	"slices"
	"testing"

	"klister/api"
	"klister/jury"
)

// all returns a text of what functions of a record return.
func all(r jury.Record) string {
	var list []any
	add := func(results ...any) { list = append(list, results...) }
	add(jury.Late(r))
	add(jury.Counting(r))
	add(jury.Open(r))
	for bib := range 20 {
		add(jury.Total(r, bib))
		add(jury.Core(r, bib))
		add(jury.Places(r, bib))
	}
	for number := range 50 {
		add(jury.Much(r, number))
		add(jury.Subject(r, number))
		add(jury.Matters(r, number))
	}
	add(jury.Result(r))
	add(jury.Settled(r))
	add(jury.Can(r, 2))
	add(jury.Must(r, 2))
	add(jury.Sorted(r))
	return fmt.Sprint(list...)
}

// shuffled returns a record with its skiers and its decisions in another order.
func shuffled(g *rand.Rand, r jury.Record) jury.Record {
	r.Skiers, r.Decisions = slices.Clone(r.Skiers), slices.Clone(r.Decisions)
	g.Shuffle(len(r.Skiers), func(a, b int) { r.Skiers[a], r.Skiers[b] = r.Skiers[b], r.Skiers[a] })
	g.Shuffle(len(r.Decisions), func(a, b int) { r.Decisions[a], r.Decisions[b] = r.Decisions[b], r.Decisions[a] })
	return r
}

// P9.7 and P0.10: everything is the same in whatever order decisions come, and
// whatever the order of the skiers.
func TestAnyOrder(t *testing.T) {
	g := rand.New(rand.NewSource(6))
	for range 100 {
		r := someRecord(g, 8, 40)
		want := all(r)
		for range 2 {
			if got := all(shuffled(g, r)); got != want {
				t.Fatal(r, got, want)
			}
		}
	}
}

// P9.7 and P0.10: decisions that come one by one, in any order, give the result
// of all of them; the one that another one is about can come later.
func TestOneByOne(t *testing.T) {
	g := rand.New(rand.NewSource(7))
	for range 300 {
		r := someRecord(g, 8, 40)
		want, e := jury.Result(r)
		if e != api.OK {
			t.Fatal(r, e)
		}
		came := r
		came.Decisions = nil
		for _, d := range shuffled(g, r).Decisions {
			if came, e = jury.Add(came, d); e != api.OK {
				t.Fatal(came, d, e)
			}
		}
		if got, e := jury.Result(came); !slices.Equal(got, want) || e != api.OK {
			t.Fatal(r, got, want, e)
		}
	}
}

// P9.7: a decision about one that there is not has no effect until that one comes.
func TestComesLater(t *testing.T) {
	r := trio(about(3, jury.Uphold, 2), about(5, jury.Cancel, 4))
	first := lines(1, 1, 15000, 2, 2, 15100, 3, 3, 15200)
	last := lines(2, 1, 15100, 3, 2, 15200, 1, 3, 15300)
	for _, x := range []struct {
		d    jury.Decision
		want []jury.Line
	}{
		{own(1, jury.Penalty, 1, 300), last},
		{at(10, about(2, jury.Protest, 1)), first},
		{about(6, jury.Dismiss, 2), last},
		{about(4, jury.Cancel, 1), last},
		{about(9, jury.Cancel, 6), first},
		{about(7, jury.Cancel, 5), first},
		{about(8, jury.Cancel, 3), first},
		{about(11, jury.Cancel, 7), last},
	} {
		var e api.Errno
		if r, e = jury.Add(r, x.d); e != api.OK {
			t.Fatal(x.d, e)
		}
		isScored(t, r, x.want)
	}
}

// P9.7: decisions that do not count can be left out, one or all of them.
func TestLeftOut(t *testing.T) {
	g := rand.New(rand.NewSource(8))
	left := 0
	for range 500 {
		r := someRecord(g, 6, 40)
		want, _ := jury.Result(r)
		counting, _ := jury.Counting(r)
		without := func(gone func(jury.Decision) bool) {
			t.Helper()
			part := r
			part.Decisions = slices.DeleteFunc(slices.Clone(r.Decisions), gone)
			isScored(t, part, want)
		}
		fails := func(d jury.Decision) bool { return !slices.Contains(counting, d.Number) }
		without(fails)
		for _, d := range r.Decisions {
			if fails(d) {
				without(func(other jury.Decision) bool { return other == d })
				left++
			}
		}
	}
	if left < 500 {
		t.Error("too few cases", left)
	}
}

// P9.7: an open decision changes the total of the skier whom it concerns, at
// most; and without open decisions all lines are settled.
func TestOpenConcernsOne(t *testing.T) {
	g := rand.New(rand.NewSource(9))
	changes, none := 0, 0
	for range 1500 {
		r := someRecord(g, 5, 14)
		open, _ := jury.Open(r)
		result, _ := jury.Result(r)
		if len(open) == 0 {
			isSettled(t, r, result)
			none++
		}
		if len(open) > jury.MaxOpen {
			continue
		}
		for _, n := range open {
			bib, _ := jury.Subject(r, n)
			for _, upheld := range outcomesOf(slices.DeleteFunc(slices.Clone(open), func(other int) bool { return other == n })) {
				before, _ := jury.Outcome(r, upheld)
				with := append(slices.Clone(upheld), n)
				slices.Sort(with)
				after, _ := jury.Outcome(r, with)
				changes += changed(t, before, after, bib)
			}
		}
	}
	if changes < 300 || none < 100 {
		t.Error("too few cases", changes, none)
	}
}

// changed checks that no total but that of one skier has changed, and returns
// how many have.
func changed(t *testing.T, before, after []jury.Line, bib int) int {
	t.Helper()
	n := 0
	for _, a := range before {
		for _, b := range after {
			if a.Bib == b.Bib && (a.Total != b.Total || (a.Place == jury.None) != (b.Place == jury.None)) {
				if a.Bib != bib {
					t.Fatal(before, after, bib)
				}
				n++
			}
		}
	}
	return n
}

// P9.7: a decision that is cancelled counts again if all that cancels it is cancelled.
func TestCountsAgain(t *testing.T) {
	r := trio(own(1, jury.Penalty, 1, 300), about(2, jury.Cancel, 1), about(3, jury.Protest, 1), about(4, jury.Uphold, 3))
	isScored(t, r, lines(1, 1, 15000, 2, 2, 15100, 3, 3, 15200))
	r.Decisions = append(r.Decisions, about(5, jury.Cancel, 2))
	isScored(t, r, lines(1, 1, 15000, 2, 2, 15100, 3, 3, 15200))
	r.Decisions = append(r.Decisions, about(6, jury.Cancel, 3))
	isScored(t, r, lines(2, 1, 15100, 3, 2, 15200, 1, 3, 15300))
	r.Decisions = append(r.Decisions, about(7, jury.Cancel, 6), about(8, jury.Cancel, 4))
	isScored(t, r, lines(2, 1, 15100, 3, 2, 15200, 1, 3, 15300))
	isJudged(t, r, nil, []int{1, 3, 5, 7, 8}, []int{3})
}
