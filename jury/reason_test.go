package jury_test

import (
	"math/rand"
	"slices"
	"testing"

	"klister/api"
	"klister/jury"
)

// isExplained compares the core of a skier with what is expected, and checks
// that it explains.
func isExplained(t *testing.T, r jury.Record, bib int, want []int) {
	t.Helper()
	core, e := jury.Core(r, bib)
	is, f := jury.Explains(r, bib, core)
	if !slices.Equal(core, want) || !is || e != api.OK || f != api.OK {
		t.Error(r, bib, core, is, e, f)
	}
}

// P9.4: what belongs to a core, and what does not.
func TestCore(t *testing.T) {
	for _, x := range []struct {
		decisions []jury.Decision
		want      []int
	}{
		{nil, nil},
		{disputed(), []int{1}},
		{append(disputed(), about(3, jury.Uphold, 2)), nil},
		{append(disputed(), about(3, jury.Dismiss, 2)), []int{1}},
		{[]jury.Decision{own(1, jury.Penalty, 2, 5), own(2, jury.Out, 3, 0)}, nil},
		{[]jury.Decision{own(9, jury.Bonus, 1, 5), own(2, jury.Out, 1, 0), own(4, jury.Loops, 1, 1), own(7, jury.Penalty, 1, 1)}, []int{2, 4, 7, 9}},
		{[]jury.Decision{own(1, jury.Claim, 1, 5)}, nil},
		{[]jury.Decision{own(1, jury.Claim, 1, 5), about(2, jury.Dismiss, 1)}, nil},
		{[]jury.Decision{own(1, jury.Claim, 1, 5), about(2, jury.Uphold, 1)}, []int{1, 2}},
		{[]jury.Decision{at(31, own(1, jury.Claim, 1, 5)), about(2, jury.Uphold, 1)}, nil},
		{[]jury.Decision{own(1, jury.Claim, 1, 5), about(2, jury.Uphold, 1), about(3, jury.Uphold, 1), about(4, jury.Dismiss, 1), about(5, jury.Cancel, 4)}, []int{1, 3}},
		{[]jury.Decision{own(1, jury.Claim, 1, 5), replace(2, 1, 6), about(3, jury.Uphold, 1), replace(4, 2, 7)}, []int{1, 2, 3, 4}},
		// an Uphold about a penalty, and a Replace of an Uphold, decide nothing
		{[]jury.Decision{own(1, jury.Penalty, 1, 5), about(2, jury.Uphold, 1)}, []int{1}},
		{[]jury.Decision{own(1, jury.Claim, 1, 5), about(2, jury.Uphold, 1), replace(3, 2, 9)}, []int{1, 2}},
		{[]jury.Decision{own(1, jury.Penalty, 1, 5), replace(2, 1, 6), replace(3, 1, 7), replace(4, 3, 8), replace(5, 2, 9), replace(6, 4, 1), about(7, jury.Cancel, 6)}, []int{1, 3, 4}},
		{[]jury.Decision{own(1, jury.Out, 1, 0), replace(2, 1, 6)}, []int{1, 2}},
		{[]jury.Decision{own(1, jury.Out, 1, 0), about(2, jury.Cancel, 1), about(3, jury.Cancel, 2)}, []int{1}},
	} {
		r := trio(x.decisions...)
		isExplained(t, r, 1, x.want)
		slices.Reverse(r.Decisions)
		isExplained(t, r, 1, x.want)
		r.Skiers[0].Time = jury.None
		isExplained(t, r, 1, x.want)
	}
	// the last example
	isExplained(t, trio(own(8, jury.Claim, 2, 150), about(9, jury.Uphold, 8)), 2, []int{8, 9})
	for _, bib := range []int{0, 4} {
		if core, e := jury.Core(trio(disputed()...), bib); len(core) != 0 || e != api.ErrUnknown {
			t.Error(core, e)
		}
	}
}

// P9.4: lists that explain a total, in any order, and lists that do not.
func TestExplains(t *testing.T) {
	r := trio(own(1, jury.Penalty, 1, 300), replace(2, 1, 100), about(3, jury.Cancel, 2), own(5, jury.Claim, 1, 50), about(6, jury.Uphold, 5),
		own(7, jury.Out, 2, 0), own(8, jury.Out, 2, 0), own(9, jury.Bonus, 3, 15200), own(10, jury.Bonus, 3, 20000), own(11, jury.Bonus, 1, 350))
	// 1 has 300 and 50 more and 350 less, so 15000 as without them; 2 is out; 3 has 0
	for i, x := range []struct {
		bib     int
		numbers []int
		want    bool
	}{
		{1, []int{1, 5, 6, 11}, true},
		{1, []int{11, 6, 5, 1, 1, 11}, true},
		{1, nil, true},
		{1, []int{1}, false},
		{1, []int{1, 2, 5, 6, 11}, false},
		{1, []int{1, 2, 3, 5, 6, 11}, true},
		{1, []int{1, 5, 11}, false},
		{1, []int{5, 3, 2}, true},
		{1, []int{7, 9}, true},
		{2, nil, false},
		{2, []int{7}, true},
		{2, []int{8, 1}, true},
		{2, []int{9, 1}, false},
		{3, nil, false},
		{3, []int{9}, true},
		{3, []int{10}, true},
		{3, []int{10, 9}, true},
	} {
		if is, e := jury.Explains(r, x.bib, x.numbers); is != x.want || e != api.OK {
			t.Error(i, is, e)
		}
	}
	// a total of 0 is not the same as to be out
	zero := trio(own(1, jury.Bonus, 1, 15000), own(2, jury.Out, 1, 0), about(3, jury.Cancel, 2))
	if is, e := jury.Explains(zero, 1, []int{2}); is || e != api.OK {
		t.Error(is, e)
	}
	for i, x := range []struct {
		bib     int
		numbers []int
	}{{1, []int{4}}, {1, []int{1, 0}}, {1, []int{-1}}, {4, nil}, {0, []int{1}}, {4, []int{4}}} {
		if is, e := jury.Explains(r, x.bib, x.numbers); is || e != api.ErrUnknown {
			t.Error(i, is, e)
		}
	}
}

// P9.4: random records, compared with the slow reading: cores, and all lists
// of decisions that explain.
func TestReasonsOfRandomRecords(t *testing.T) {
	g := rand.New(rand.NewSource(3))
	for range 400 {
		r := someRecord(g, 3, 6)
		j := judge(r, nil)
		for _, s := range r.Skiers {
			isExplained(t, r, s.Bib, j.coreOf(s.Bib))
			total, out := j.totalOf(s.Bib)
			for set := range 1 << len(r.Decisions) {
				part := r
				part.Decisions = nil
				var numbers []int
				for k, d := range r.Decisions {
					if set>>k&1 == 1 {
						part.Decisions, numbers = append(part.Decisions, d), append(numbers, d.Number)
					}
				}
				other, gone := judge(part, nil).totalOf(s.Bib)
				if is, e := jury.Explains(r, s.Bib, numbers); is != (other == total && gone == out) || e != api.OK {
					t.Fatal(r, s, numbers, is, e)
				}
			}
		}
	}
}
