package jury_test

import (
	"math/rand"
	"slices"
	"testing"

	"klister/api"
	"klister/jury"
)

// isJudged compares which decisions of a record are late, count and are open
// with what is expected.
func isJudged(t *testing.T, r jury.Record, late, counting, open []int) {
	t.Helper()
	l, e := jury.Late(r)
	c, f := jury.Counting(r)
	o, g := jury.Open(r)
	if !slices.Equal(l, late) || !slices.Equal(c, counting) || !slices.Equal(o, open) || e != api.OK || f != api.OK || g != api.OK {
		t.Error(r.Decisions, l, c, o, e, f, g)
	}
}

// P9.2: only protests and claims are late, and only after the deadline; they
// do not count, whatever is decided about them.
func TestLate(t *testing.T) {
	isJudged(t, trio(at(30, about(5, jury.Protest, 1)), at(30, own(6, jury.Claim, 1, 10))), nil, []int{5, 6}, []int{5, 6})
	isJudged(t, trio(at(31, own(6, jury.Claim, 1, 10)), at(31, about(5, jury.Protest, 1)), about(7, jury.Uphold, 6), about(8, jury.Uphold, 5)), []int{5, 6}, []int{7, 8}, nil)
	r := trio(own(1, jury.Penalty, 1, 0), own(2, jury.Bonus, 1, 0), own(3, jury.Loops, 1, 0), own(4, jury.Out, 1, 0),
		about(5, jury.Cancel, 1), replace(6, 2, 0), about(7, jury.Uphold, 2), about(8, jury.Dismiss, 2))
	for k := range r.Decisions {
		r.Decisions[k].Minute = 10000
	}
	isJudged(t, r, nil, []int{2, 3, 4, 5, 6, 7, 8}, nil)
}

// P9.2: what cancels what.
func TestCounting(t *testing.T) {
	first := own(1, jury.Penalty, 1, 300)
	for _, x := range []struct {
		decisions      []jury.Decision
		counting, open []int
	}{
		{nil, nil, nil},
		{[]jury.Decision{first}, []int{1}, nil},
		{[]jury.Decision{first, about(2, jury.Cancel, 1)}, []int{2}, nil},
		{[]jury.Decision{first, about(2, jury.Cancel, 1), about(3, jury.Cancel, 2)}, []int{1, 3}, nil},
		// only all that cancels a decision
		{[]jury.Decision{first, about(2, jury.Cancel, 1), about(3, jury.Cancel, 2), about(4, jury.Cancel, 1)}, []int{3, 4}, nil},
		{[]jury.Decision{first, about(2, jury.Cancel, 1), about(3, jury.Cancel, 2), about(4, jury.Cancel, 3)}, []int{2, 4}, nil},
		{[]jury.Decision{first, about(2, jury.Protest, 1)}, []int{1, 2}, []int{2}},
		{[]jury.Decision{first, about(2, jury.Protest, 1), about(3, jury.Uphold, 2)}, []int{2, 3}, nil},
		{[]jury.Decision{first, about(2, jury.Protest, 1), about(3, jury.Dismiss, 2)}, []int{1, 2, 3}, nil},
		// the one with the greatest Number decides
		{[]jury.Decision{first, about(2, jury.Protest, 1), about(4, jury.Uphold, 2), about(3, jury.Dismiss, 2)}, []int{2, 3, 4}, nil},
		{[]jury.Decision{first, about(2, jury.Protest, 1), about(3, jury.Uphold, 2), about(4, jury.Dismiss, 2)}, []int{1, 2, 3, 4}, nil},
		{[]jury.Decision{first, about(2, jury.Protest, 1), about(3, jury.Uphold, 2), about(4, jury.Dismiss, 2), about(5, jury.Cancel, 4)}, []int{2, 3, 5}, nil},
		// a decision about a protest that does not count has no effect, and one about no protest neither
		{[]jury.Decision{first, about(2, jury.Protest, 1), about(3, jury.Uphold, 2), about(4, jury.Cancel, 2)}, []int{1, 3, 4}, nil},
		{[]jury.Decision{first, about(3, jury.Dismiss, 1), about(4, jury.Uphold, 1)}, []int{1, 3, 4}, nil},
		// a protest about an Uphold or a Dismiss
		{[]jury.Decision{first, about(2, jury.Protest, 1), about(3, jury.Uphold, 2), about(4, jury.Protest, 3), about(5, jury.Uphold, 4)}, []int{2, 3, 4, 5}, nil},
		{[]jury.Decision{first, about(2, jury.Protest, 1), about(3, jury.Dismiss, 2), about(4, jury.Protest, 3)}, []int{1, 2, 3, 4}, []int{4}},
		// a protest about all other kinds
		{[]jury.Decision{about(2, jury.Cancel, 1), about(3, jury.Protest, 2), about(4, jury.Uphold, 3)}, []int{3, 4}, nil},
		{[]jury.Decision{replace(2, 1, 9), about(3, jury.Protest, 2), about(4, jury.Uphold, 3)}, []int{3, 4}, nil},
		{[]jury.Decision{about(2, jury.Protest, 1), about(3, jury.Protest, 2), about(4, jury.Uphold, 3)}, []int{3, 4}, nil},
		{[]jury.Decision{own(2, jury.Claim, 1, 9), about(3, jury.Protest, 2), about(4, jury.Uphold, 3)}, []int{3, 4}, nil},
		{[]jury.Decision{own(2, jury.Out, 1, 0), about(3, jury.Protest, 2), about(4, jury.Uphold, 3)}, []int{3, 4}, nil},
		// claims
		{[]jury.Decision{own(2, jury.Claim, 1, 9)}, []int{2}, []int{2}},
		{[]jury.Decision{own(2, jury.Claim, 1, 9), about(3, jury.Dismiss, 2)}, []int{2, 3}, nil},
		{[]jury.Decision{own(2, jury.Claim, 1, 9), about(3, jury.Uphold, 2), about(4, jury.Cancel, 3)}, []int{2, 4}, []int{2}},
		{[]jury.Decision{own(2, jury.Claim, 1, 9), about(3, jury.Cancel, 2)}, []int{3}, nil},
		// about a decision that there is not
		{[]jury.Decision{about(9, jury.Cancel, 8), about(7, jury.Protest, 5), about(8000, jury.Uphold, 6)}, []int{7, 9, 8000}, []int{7}},
	} {
		r := trio(x.decisions...)
		isJudged(t, r, nil, x.counting, x.open)
		slices.Reverse(r.Decisions)
		isJudged(t, r, nil, x.counting, x.open)
	}
}

// P9.2: the much of a decision, whether it counts or not.
func TestMuch(t *testing.T) {
	r := trio(own(1, jury.Penalty, 1, 300), replace(2, 1, 100), replace(5, 1, 200), replace(3, 1, 250),
		replace(6, 5, 220), replace(7, 6, 230), replace(8, 6, 240), about(9, jury.Cancel, 8), replace(10, 2, 50),
		own(11, jury.Out, 1, 0), replace(12, 11, 70), about(13, jury.Cancel, 11), replace(14, 9, 80), own(15, jury.Bonus, 1, 5), replace(17, 16, 6))
	for number, want := range map[int]int{1: 230, 2: 50, 3: 250, 5: 230, 6: 230, 7: 230, 8: 240, 9: 80, 10: 50, 11: 70, 12: 70, 13: 0, 14: 80, 15: 5, 17: 6} {
		if much, e := jury.Much(r, number); much != want || e != api.OK {
			t.Error(number, much, e)
		}
	}
	for _, number := range []int{-1, 0, 4, 16, 18} {
		if much, e := jury.Much(r, number); much != 0 || e != api.ErrUnknown {
			t.Error(number, much, e)
		}
	}
}

// P9.2: the skier whom a decision concerns, whether decisions count or not.
func TestSubject(t *testing.T) {
	r := trio(own(1, jury.Penalty, 3, 300), own(2, jury.Claim, 2, 10), about(3, jury.Protest, 1), about(4, jury.Uphold, 3), about(5, jury.Cancel, 4),
		replace(6, 2, 9), about(7, jury.Dismiss, 6), about(10, jury.Cancel, 9), about(11, jury.Cancel, 10), own(12, jury.Out, 1, 0), about(13, jury.Cancel, 12), about(14, jury.Cancel, 13))
	for number, want := range map[int]int{1: 3, 2: 2, 3: 3, 4: 3, 5: 3, 6: 2, 7: 2, 12: 1, 13: 1, 14: 1} {
		if bib, e := jury.Subject(r, number); bib != want || e != api.OK {
			t.Error(number, bib, e)
		}
	}
	for number, want := range map[int]api.Errno{10: api.ErrNone, 11: api.ErrNone, 9: api.ErrUnknown, 0: api.ErrUnknown, -1: api.ErrUnknown} {
		if bib, e := jury.Subject(r, number); bib != 0 || e != want {
			t.Error(number, bib, e)
		}
	}
}

// P9.2: random records, compared with the only way to say what counts.
func TestDecisionsOfRandomRecords(t *testing.T) {
	g := rand.New(rand.NewSource(1))
	cancelled, opens := 0, 0
	for range 3000 {
		r := someRecord(g, 3, 8)
		j := judge(r, nil)
		late := j.numbers(func(_ int, d jury.Decision) bool { return j.isLate(d) })
		counting := j.numbers(func(k int, _ jury.Decision) bool { return j.counts[k] })
		isJudged(t, r, late, counting, j.openOf())
		cancelled += len(r.Decisions) - len(late) - len(counting)
		opens += len(j.openOf())
		for _, d := range r.Decisions {
			much, e := jury.Much(r, d.Number)
			bib, f := jury.Subject(r, d.Number)
			want := api.OK
			if subjectOf(r, d.Number) == 0 {
				want = api.ErrNone
			}
			if much != j.muchOf(d) || bib != subjectOf(r, d.Number) || e != api.OK || f != want {
				t.Fatal(r, d, much, bib, e, f)
			}
		}
	}
	if cancelled < 500 || opens < 500 {
		t.Error("too few cases", cancelled, opens)
	}
}
