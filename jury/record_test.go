package jury_test

import (
	"math"
	"slices"
	"testing"

	"klister/api"
	"klister/jury"
)

// errors returns the errors of all functions of a record, the other arguments
// of which are refused with errors that come later.
func errors(r jury.Record) []api.Errno {
	_, _, total := jury.Total(r, -1)
	_, _, places := jury.Places(r, -1)
	return []api.Errno{
		jury.Check(r),
		second(jury.Add(r, jury.Decision{})),
		second(jury.Sorted(r)),
		second(jury.Late(r)),
		second(jury.Counting(r)),
		second(jury.Open(r)),
		second(jury.Much(r, -1)),
		second(jury.Subject(r, -1)),
		total,
		second(jury.Result(r)),
		second(jury.Core(r, -1)),
		second(jury.Explains(r, -1, []int{-1})),
		second(jury.Outcome(r, []int{2, 1})),
		places,
		second(jury.Scenario(r, -1, 1)),
		second(jury.Matters(r, -1)),
		second(jury.Can(r, 0)),
		second(jury.Must(r, 0)),
		second(jury.Settled(r)),
	}
}

// isRefused checks that all functions of a record return an error.
func isRefused(t *testing.T, name string, r jury.Record, want api.Errno) {
	t.Helper()
	for k, e := range errors(r) {
		if e != want {
			t.Error(name, k, e)
		}
	}
}

// full returns a record with so many skiers and decisions.
func full(skiers, decisions int) jury.Record {
	var r jury.Record
	for k := range skiers {
		r.Skiers = append(r.Skiers, jury.Skier{Bib: k + 1})
	}
	for k := range decisions {
		r.Decisions = append(r.Decisions, own(k+1, jury.Penalty, 1, 0))
	}
	return r
}

// P9.1: records at the ends of what is allowed.
func TestCheckAllows(t *testing.T) {
	last := trio(own(9999, jury.Penalty, 999, 36000), about(9998, jury.Cancel, 9997), about(2, jury.Uphold, 1), at(10000, replace(9990, 1, 36000)))
	last.Deadline = 10000
	last.Skiers = []jury.Skier{{Bib: 999, Time: 360000}, {Bib: 1, Time: jury.None}, {Bib: 2}}
	zeros := trio(own(1, jury.Penalty, 1, 0), own(2, jury.Bonus, 1, 0), own(3, jury.Loops, 1, 0), own(4, jury.Claim, 1, 0), replace(5, 4, 0))
	zeros.Deadline = 0
	most := trio(own(1, jury.Penalty, 1, 36000), own(2, jury.Bonus, 1, 36000), own(3, jury.Loops, 1, 36000), own(4, jury.Claim, 1, 36000), own(5, jury.Out, 1, 0),
		about(6, jury.Cancel, 5), replace(7, 5, 36000), about(8, jury.Protest, 5), about(9, jury.Uphold, 5), about(10, jury.Dismiss, 5))
	for i, r := range []jury.Record{trio(), trio(disputed()...), last, zeros, most, full(1, 0), full(30, 40)} {
		if e := jury.Check(r); e != api.OK {
			t.Error(i, e)
		}
	}
}

// P9.1: what is refused by all functions of a record.
func TestCheckRefuses(t *testing.T) {
	isRefused(t, "no skier", full(0, 0), api.ErrCount)
	isRefused(t, "31 skiers", full(31, 0), api.ErrCount)
	isRefused(t, "41 decisions", full(3, 41), api.ErrCount)
	for _, x := range []struct {
		name   string
		change func(r *jury.Record)
		want   api.Errno
	}{
		{"the deadline -1", func(r *jury.Record) { r.Deadline = -1 }, api.ErrRange},
		{"the deadline 10001", func(r *jury.Record) { r.Deadline = 10001 }, api.ErrRange},
		{"the bib 0", func(r *jury.Record) { r.Skiers[2].Bib = 0 }, api.ErrRange},
		{"the bib 1000", func(r *jury.Record) { r.Skiers[2].Bib = 1000 }, api.ErrRange},
		{"the time -2", func(r *jury.Record) { r.Skiers[2].Time = -2 }, api.ErrRange},
		{"the time 360001", func(r *jury.Record) { r.Skiers[2].Time = 360001 }, api.ErrRange},
		{"the number 0", func(r *jury.Record) { r.Decisions[0].Number = 0 }, api.ErrRange},
		{"the number 10000", func(r *jury.Record) { r.Decisions[1].Number = 10000 }, api.ErrRange},
		{"the kind -1", func(r *jury.Record) { r.Decisions[1].Kind = -1 }, api.ErrRange},
		{"the kind 10", func(r *jury.Record) { r.Decisions[1].Kind = 10 }, api.ErrRange},
		{"the least kind", func(r *jury.Record) { r.Decisions[1].Kind = math.MinInt }, api.ErrRange},
		{"the minute -1", func(r *jury.Record) { r.Decisions[1].Minute = -1 }, api.ErrRange},
		{"the minute 10001", func(r *jury.Record) { r.Decisions[0].Minute = 10001 }, api.ErrRange},
		{"the bib of two skiers", func(r *jury.Record) { r.Skiers[2].Bib = 1 }, api.ErrTwice},
		{"the number of two decisions", func(r *jury.Record) { r.Decisions[0].Number = 2 }, api.ErrTwice},
		{"an unknown bib", func(r *jury.Record) { r.Decisions[0].Bib = 4 }, api.ErrUnknown},
		{"no bib", func(r *jury.Record) { r.Decisions[0].Bib = 0 }, api.ErrUnknown},
		{"a bib of a protest", func(r *jury.Record) { r.Decisions[1].Bib = 1 }, api.ErrUnknown},
		{"a bib -1 of a protest", func(r *jury.Record) { r.Decisions[1].Bib = -1 }, api.ErrUnknown},
		{"about itself", func(r *jury.Record) { r.Decisions[1].About = 2 }, api.ErrOrder},
		{"about a later one", func(r *jury.Record) { r.Decisions[1].About = 3 }, api.ErrOrder},
		{"about none", func(r *jury.Record) { r.Decisions[1].About = 0 }, api.ErrOrder},
		{"about -1", func(r *jury.Record) { r.Decisions[1].About = -1 }, api.ErrOrder},
		{"the first one about another one", func(r *jury.Record) { r.Decisions = r.Decisions[1:]; r.Decisions[0].Number = 1 }, api.ErrOrder},
		{"a penalty about another one", func(r *jury.Record) { r.Decisions[0].Number = 5; r.Decisions[0].About = 1 }, api.ErrOrder},
		{"a penalty about -1", func(r *jury.Record) { r.Decisions[0].About = -1 }, api.ErrOrder},
	} {
		r := trio(disputed()...)
		x.change(&r)
		isRefused(t, x.name, r, x.want)
	}
}

// P9.1: the Much of each kind.
func TestCheckMuch(t *testing.T) {
	for k, most := range map[jury.Kind]int{
		jury.Penalty: 36000, jury.Bonus: 36000, jury.Loops: 36000, jury.Out: 0, jury.Claim: 36000,
		jury.Cancel: 0, jury.Replace: 36000, jury.Protest: 0, jury.Uphold: 0, jury.Dismiss: 0,
	} {
		d := own(5, k, 1, most)
		if k >= jury.Cancel {
			d = jury.Decision{Number: 5, Kind: k, About: 4, Much: most}
		}
		if e := jury.Check(trio(d)); e != api.OK {
			t.Error(k, e)
		}
		d.Much = most + 1
		isRefused(t, "too much", trio(d), api.ErrRange)
		d.Much = -1
		isRefused(t, "too little", trio(d), api.ErrRange)
	}
}

// P9.1 and R1: of several errors the first one is returned, wherever it is.
func TestCheckOrder(t *testing.T) {
	r := full(31, 0)
	r.Deadline = -1
	isRefused(t, "count before range", r, api.ErrCount)
	r = full(3, 41)
	r.Skiers[0].Bib = 0
	isRefused(t, "count before range", r, api.ErrCount)
	r = trio(own(1, jury.Penalty, 1, 0), own(1, jury.Penalty, 1, -1))
	isRefused(t, "range before twice", r, api.ErrRange)
	r = trio(own(1, jury.Penalty, 1, 0), own(2, jury.Penalty, 1, -1))
	r.Skiers[1].Bib = 1
	isRefused(t, "range before twice", r, api.ErrRange)
	r = trio(own(1, jury.Penalty, 9, 0), own(2, jury.Penalty, 1, 0), own(2, jury.Penalty, 1, 0))
	isRefused(t, "twice before unknown", r, api.ErrTwice)
	r = trio(about(1, jury.Cancel, 1), own(2, jury.Penalty, 9, 0))
	isRefused(t, "unknown before order", r, api.ErrUnknown)
	isRefused(t, "order before what is asked", trio(about(1, jury.Cancel, 1)), api.ErrOrder)
}

// P9.1: a decision more comes behind all others, and is checked after the record.
func TestAdd(t *testing.T) {
	r, e := jury.Add(trio(disputed()[1:]...), disputed()[0])
	if want := []jury.Decision{disputed()[1], disputed()[0]}; e != api.OK || r.Deadline != 30 || !slices.Equal(r.Skiers, trio().Skiers) || !slices.Equal(r.Decisions, want) {
		t.Error(r, e)
	}
	if r, e := jury.Add(full(1, 39), own(40, jury.Bonus, 1, 1)); e != api.OK || len(r.Decisions) != 40 {
		t.Error(len(r.Decisions), e)
	}
	for i, x := range []struct {
		r    jury.Record
		d    jury.Decision
		want api.Errno
	}{
		{full(1, 40), own(41, jury.Bonus, 1, 1), api.ErrCount},
		{full(1, 40), own(41, jury.Bonus, 1, -1), api.ErrCount},
		{trio(), own(1, jury.Bonus, 1, -1), api.ErrRange},
		{trio(disputed()...), own(2, jury.Bonus, 7, 1), api.ErrTwice},
		{trio(disputed()...), own(3, jury.Bonus, 7, 1), api.ErrUnknown},
		{trio(disputed()...), about(3, jury.Cancel, 3), api.ErrOrder},
		{trio(about(3, jury.Cancel, 3)), own(1, jury.Bonus, 1, -1), api.ErrOrder},
	} {
		if r, e := jury.Add(x.r, x.d); e != x.want || len(r.Skiers) != 0 || len(r.Decisions) != 0 || r.Deadline != 0 {
			t.Error(i, r, e)
		}
	}
}

// P9.1: skiers by their bibs, and decisions by their Numbers.
func TestSorted(t *testing.T) {
	r := jury.Record{
		Deadline:  7,
		Skiers:    []jury.Skier{{Bib: 9, Time: 1}, {Bib: 2, Time: 3}, {Bib: 5, Time: 2}},
		Decisions: []jury.Decision{about(40, jury.Cancel, 3), own(3, jury.Out, 9, 0), own(7, jury.Out, 2, 0)},
	}
	s, e := jury.Sorted(r)
	skiers := []jury.Skier{{Bib: 2, Time: 3}, {Bib: 5, Time: 2}, {Bib: 9, Time: 1}}
	decisions := []jury.Decision{own(3, jury.Out, 9, 0), own(7, jury.Out, 2, 0), about(40, jury.Cancel, 3)}
	if e != api.OK || s.Deadline != 7 || !slices.Equal(s.Skiers, skiers) || !slices.Equal(s.Decisions, decisions) {
		t.Error(s, e)
	}
}
