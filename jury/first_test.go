package jury_test

import (
	"math"
	"math/rand"
	"slices"
	"testing"

	"klister/api"
	"klister/jury"
)

// isFirst compares who can, and who must be among the first, with what is expected.
func isFirst(t *testing.T, r jury.Record, first int, can, must []int) {
	t.Helper()
	a, e := jury.Can(r, first)
	b, f := jury.Must(r, first)
	if !slices.Equal(a, can) || !slices.Equal(b, must) || e != api.OK || f != api.OK {
		t.Error(r, first, a, b, e, f)
	}
}

// isSettled compares the lines that are settled with what is expected.
func isSettled(t *testing.T, r jury.Record, want []jury.Line) {
	t.Helper()
	if settled, e := jury.Settled(r); !slices.Equal(settled, want) || e != api.OK {
		t.Error(r, settled, e)
	}
}

// P9.6: who can be first in the examples, and who surely is.
func TestFirstOfExample(t *testing.T) {
	r := trio(disputed()...)
	isFirst(t, r, 1, []int{1, 2}, nil)
	isFirst(t, r, 2, []int{1, 2, 3}, []int{2})
	isFirst(t, r, 3, []int{1, 2, 3}, []int{1, 2, 3})
	isFirst(t, r, math.MaxInt, []int{1, 2, 3}, []int{1, 2, 3})
	isSettled(t, r, nil)
	r.Decisions = append(r.Decisions, about(3, jury.Dismiss, 2))
	isFirst(t, r, 1, []int{2}, []int{2})
	isSettled(t, r, lines(2, 1, 15100, 3, 2, 15200, 1, 3, 15300))
}

// P9.6: who is out is not among the first, however many these are; who can be
// out is so in some outcome only.
func TestFirstOfThoseWhoAreOut(t *testing.T) {
	r := trio(own(1, jury.Out, 1, 0), about(2, jury.Protest, 1), own(3, jury.Out, 2, 0))
	r.Skiers = append([]jury.Skier{{Bib: 9, Time: jury.None}}, r.Skiers...)
	isFirst(t, r, 1, []int{1, 3}, nil)
	isFirst(t, r, 2, []int{1, 3}, []int{3})
	for _, first := range []int{4, 5, 29, 30, 31, 32, 1000, math.MaxInt} {
		isFirst(t, r, first, []int{1, 3}, []int{3})
	}
	isSettled(t, r, lines(2, -1, 0, 9, -1, 0))
	isFirst(t, trio(own(1, jury.Out, 1, 0), own(2, jury.Out, 2, 0), own(3, jury.Out, 3, 0)), math.MaxInt, nil, nil)
}

// P9.6: lines with the same place in each outcome, with the totals of the result.
func TestSettled(t *testing.T) {
	isSettled(t, trio(own(1, jury.Claim, 1, 50)), lines(1, 1, 15000, 2, 2, 15100, 3, 3, 15200))
	isSettled(t, trio(own(1, jury.Claim, 1, 100)), lines(1, 1, 15000, 3, 3, 15200))
	isSettled(t, trio(own(1, jury.Claim, 1, 101)), lines(3, 3, 15200))
	// the same place with all and with none of them upheld, but not with one
	isSettled(t, trio(own(1, jury.Claim, 1, 150), own(2, jury.Claim, 2, 200)), nil)
	// out in one outcome only
	isSettled(t, trio(own(1, jury.Out, 3, 0), about(2, jury.Protest, 1)), lines(1, 1, 15000, 2, 2, 15100))
}

// P9.6: errors, and 30 skiers with 8 open decisions.
func TestFirstErrors(t *testing.T) {
	for i, x := range []struct {
		r     jury.Record
		first int
		want  api.Errno
	}{
		{trio(), 0, api.ErrRange},
		{trio(), -1, api.ErrRange},
		{trio(), math.MinInt, api.ErrRange},
		{claims(9), 0, api.ErrRange},
		{claims(9), 1, api.ErrLarge},
		{claims(40), 1, api.ErrLarge},
	} {
		can, e := jury.Can(x.r, x.first)
		must, f := jury.Must(x.r, x.first)
		if len(can) != 0 || len(must) != 0 || e != x.want || f != x.want {
			t.Error(i, can, must, e, f)
		}
	}
	if settled, e := jury.Settled(claims(9)); len(settled) != 0 || e != api.ErrLarge {
		t.Error(settled, e)
	}
	isSettled(t, claims(8), lines(1, 1, 15000, 2, 2, 15100, 3, 3, 15200))
	r := full(30, 0)
	var settled []jury.Line
	for k := range r.Skiers {
		r.Skiers[k].Time = 10 * k
		if k >= 9 {
			settled = append(settled, jury.Line{Bib: k + 1, Place: k + 1, Total: 10 * k})
		}
	}
	for k := range 8 {
		r.Decisions = append(r.Decisions, own(k+1, jury.Claim, k+1, 11))
	}
	// each of the first eight can be behind the next one, and that one before
	isSettled(t, r, settled)
	isFirst(t, r, 1, []int{1, 2}, nil)
	isFirst(t, r, 8, bibs(9), bibs(7))
	isFirst(t, r, 9, bibs(9), bibs(9))
	isFirst(t, r, 30, bibs(30), bibs(30))
	r.Skiers[29].Time = jury.None
	isFirst(t, r, 31, bibs(29), bibs(29))
}

// bibs returns the bibs up to the last one.
func bibs(last int) []int {
	var list []int
	for k := range last {
		list = append(list, k+1)
	}
	return list
}

// P9.6: random records, compared with the slow reading of all outcomes.
func TestFirstOfRandomRecords(t *testing.T) {
	g := rand.New(rand.NewSource(5))
	for range 800 {
		r := someRecord(g, 5, 7)
		var results [][]jury.Line
		for _, upheld := range outcomesOf(judge(r, nil).openOf()) {
			results = append(results, judge(r, upheld).resultOf())
		}
		for first := 1; first <= 6; first++ {
			var can, must []int
			for bib := range jury.MaxBib {
				if !slices.ContainsFunc(r.Skiers, func(s jury.Skier) bool { return s.Bib == bib }) {
					continue
				}
				some, all := false, true
				for _, result := range results {
					place := placeIn(result, bib)
					is := place >= 1 && place <= first
					some, all = some || is, all && is
				}
				if some {
					can = append(can, bib)
				}
				if all {
					must = append(must, bib)
				}
			}
			isFirst(t, r, first, can, must)
		}
		var settled []jury.Line
		for _, l := range results[0] {
			other := func(result []jury.Line) bool { return placeIn(result, l.Bib) != l.Place }
			if !slices.ContainsFunc(results, other) {
				settled = append(settled, l)
			}
		}
		isSettled(t, r, settled)
	}
}
