package jury_test

import (
	"math/rand"
	"slices"
	"testing"

	"klister/api"
	"klister/jury"
)

// isScored compares the result and the totals of a record with what is expected.
func isScored(t *testing.T, r jury.Record, want []jury.Line) {
	t.Helper()
	result, e := jury.Result(r)
	if !slices.Equal(result, want) || e != api.OK {
		t.Error(r, result, e)
	}
	for _, l := range want {
		if total, out, e := jury.Total(r, l.Bib); total != l.Total || out != (l.Place == jury.None) || e != api.OK {
			t.Error(r, l, total, out, e)
		}
	}
}

// P9.3: the results of the examples.
func TestResultsOfExamples(t *testing.T) {
	open := lines(2, 1, 15100, 3, 2, 15200, 1, 3, 15300)
	first := lines(1, 1, 15000, 2, 2, 15100, 3, 3, 15200)
	dismiss, cancel := about(3, jury.Dismiss, 2), about(4, jury.Cancel, 3)
	out := own(1, jury.Out, 2, 0)
	for _, x := range []struct {
		r    jury.Record
		want []jury.Line
	}{
		{trio(), first},
		{trio(disputed()...), open},
		{trio(append(disputed(), about(3, jury.Uphold, 2))...), first},
		{trio(append(disputed(), dismiss)...), open},
		{trio(append(disputed(), dismiss, cancel)...), open},
		{trio(append(disputed(), dismiss, cancel, replace(5, 1, 100))...), lines(1, 1, 15100, 2, 1, 15100, 3, 3, 15200)},
		{trio(own(1, jury.Penalty, 1, 300), at(31, about(2, jury.Protest, 1)), about(3, jury.Uphold, 2)), open},
		{trio(out), lines(1, 1, 15000, 3, 2, 15200, 2, -1, 0)},
		{trio(out, about(2, jury.Cancel, 1)), first},
		{trio(own(1, jury.Claim, 2, 150), about(2, jury.Uphold, 1)), lines(1, 1, 15000, 3, 2, 15200, 2, 3, 15250)},
	} {
		isScored(t, x.r, x.want)
	}
}

// P9.3: what each kind does to a total.
func TestTotals(t *testing.T) {
	for _, x := range []struct {
		decisions []jury.Decision
		total     int
		out       bool
	}{
		{[]jury.Decision{own(1, jury.Penalty, 2, 7), own(2, jury.Penalty, 2, 20)}, 15127, false},
		{[]jury.Decision{own(1, jury.Bonus, 2, 7), own(2, jury.Bonus, 2, 20)}, 15073, false},
		{[]jury.Decision{own(1, jury.Loops, 2, 1), own(2, jury.Loops, 2, 3)}, 15100 + 4800, false},
		{[]jury.Decision{own(1, jury.Loops, 2, 1), replace(2, 1, 3)}, 15100 + 3600, false},
		{[]jury.Decision{own(1, jury.Bonus, 2, 1), replace(2, 1, 3)}, 15097, false},
		{[]jury.Decision{own(1, jury.Claim, 2, 7)}, 15100, false},
		{[]jury.Decision{own(1, jury.Claim, 2, 7), about(2, jury.Dismiss, 1)}, 15100, false},
		{[]jury.Decision{own(1, jury.Claim, 2, 7), about(2, jury.Uphold, 1)}, 15107, false},
		{[]jury.Decision{own(1, jury.Claim, 2, 7), about(2, jury.Uphold, 1), replace(3, 1, 8)}, 15108, false},
		{[]jury.Decision{at(31, own(1, jury.Claim, 2, 7)), about(2, jury.Uphold, 1)}, 15100, false},
		{[]jury.Decision{own(1, jury.Claim, 2, 7), about(2, jury.Uphold, 1), about(3, jury.Cancel, 1)}, 15100, false},
		{[]jury.Decision{own(1, jury.Penalty, 1, 7), own(2, jury.Bonus, 3, 7)}, 15100, false},
		{[]jury.Decision{own(1, jury.Penalty, 2, 7), own(2, jury.Out, 2, 0)}, 0, true},
		{[]jury.Decision{own(1, jury.Out, 2, 0), replace(2, 1, 9)}, 0, true},
		{[]jury.Decision{own(1, jury.Out, 2, 0), own(2, jury.Out, 2, 0), about(3, jury.Cancel, 1)}, 0, true},
		{[]jury.Decision{own(1, jury.Bonus, 2, 15100)}, 0, false},
		{[]jury.Decision{own(1, jury.Bonus, 2, 15101)}, 0, false},
		// only the whole total is not below 0
		{[]jury.Decision{own(1, jury.Bonus, 2, 20000), own(2, jury.Penalty, 2, 5000)}, 100, false},
		{[]jury.Decision{own(1, jury.Loops, 2, 36000)}, 15100 + 1200*36000, false},
	} {
		r := trio(x.decisions...)
		for range 2 {
			if total, out, e := jury.Total(r, 2); total != x.total || out != x.out || e != api.OK {
				t.Error(x.decisions, total, out, e)
			}
			slices.Reverse(r.Decisions)
		}
	}
	r := trio(own(1, jury.Penalty, 2, 7))
	r.Skiers[1].Time = jury.None
	if total, out, e := jury.Total(r, 2); total != 0 || !out || e != api.OK {
		t.Error(total, out, e)
	}
	for _, bib := range []int{-1, 0, 4, 999} {
		if total, out, e := jury.Total(r, bib); total != 0 || out || e != api.ErrUnknown {
			t.Error(bib, total, out, e)
		}
	}
}

// P9.3: equal totals share a place, by their bibs, and places behind them are
// left out; those who are out come last, by their bibs.
func TestResultInOrder(t *testing.T) {
	r := jury.Record{Skiers: []jury.Skier{
		{Bib: 9, Time: 500}, {Bib: 8, Time: jury.None}, {Bib: 7, Time: 500}, {Bib: 6, Time: 600}, {Bib: 5, Time: 500},
		{Bib: 4, Time: 100}, {Bib: 3, Time: 0}, {Bib: 2, Time: 600}, {Bib: 1, Time: jury.None}, {Bib: 10, Time: 601},
	}, Decisions: []jury.Decision{own(1, jury.Out, 3, 0)}}
	want := lines(4, 1, 100, 5, 2, 500, 7, 2, 500, 9, 2, 500, 2, 5, 600, 6, 5, 600, 10, 7, 601, 1, -1, 0, 3, -1, 0, 8, -1, 0)
	isScored(t, r, want)
	for k := range r.Skiers {
		r.Skiers[k].Time = jury.None
	}
	isScored(t, r, lines(1, -1, 0, 2, -1, 0, 3, -1, 0, 4, -1, 0, 5, -1, 0, 6, -1, 0, 7, -1, 0, 8, -1, 0, 9, -1, 0, 10, -1, 0))
	// the first place of several, and none who is out among them
	isScored(t, jury.Record{Skiers: []jury.Skier{{Bib: 2}, {Bib: 1}, {Bib: 3, Time: jury.None}}}, lines(1, 1, 0, 2, 1, 0, 3, -1, 0))
}

// P9.3: 30 skiers in any order, of whom many have the same total.
func TestResultOfMany(t *testing.T) {
	g := rand.New(rand.NewSource(12))
	for range 200 {
		r := jury.Record{}
		for _, k := range g.Perm(30) {
			r.Skiers = append(r.Skiers, jury.Skier{Bib: k + 1, Time: []int{jury.None, 500, 700}[g.Intn(3)]})
		}
		isScored(t, r, judge(r, nil).resultOf())
	}
}

// P9.3: random records, compared with the slow reading.
func TestResultsOfRandomRecords(t *testing.T) {
	g := rand.New(rand.NewSource(2))
	for range 2000 {
		r := someRecord(g, 6, 7)
		isScored(t, r, judge(r, nil).resultOf())
	}
}
