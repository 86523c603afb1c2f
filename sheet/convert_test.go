package sheet_test

import (
	"cmp"
	"math"
	"math/rand"
	"slices"
	"testing"

	"klister/api"
	"klister/chip"
	"klister/sheet"
	"klister/start"
)

// P10.6: the sheet of a start list is by bibs, the start list of a sheet by times, then by bibs.
func TestStarts(t *testing.T) {
	isList := func(s sheet.Sheet, want ...start.Start) {
		t.Helper()
		l, e := sheet.ToStarts(s)
		if !slices.Equal(l, want) || e != api.OK {
			t.Error(l, e, want)
		}
		back, e := sheet.OfStarts(l)
		isSheet(t, back, e, s)
	}
	isList(starts(7, 0, 1, 12, 305, 0), start.Start{Bib: 7, Gate: 1}, start.Start{Bib: 12, Time: 305})
	isList(starts(3, 50, 0, 7, 50, 2, 9, 0, 1), start.Start{Bib: 9, Gate: 1}, start.Start{Bib: 3, Time: 50}, start.Start{Bib: 7, Time: 50, Gate: 2})
	isList(starts(1, 9, 0, 2, 8, 0, 999, 7, 60), start.Start{Bib: 999, Time: 7, Gate: 60}, start.Start{Bib: 2, Time: 8}, start.Start{Bib: 1, Time: 9})
	isList(starts(1, 360000, 0), start.Start{Bib: 1, Time: 360000})
	isList(starts())
	sixty := many(60, 1)
	var list []start.Start
	for bib := range 60 {
		list = append(list, start.Start{Bib: bib + 1})
	}
	isList(sixty, list...)
	s, e := sheet.OfStarts([]start.Start{{Bib: 9, Time: 5}, {Bib: 3, Time: 5, Gate: 4}})
	isSheet(t, s, e, starts(3, 5, 4, 9, 5, 0))
}

// P10.6: the errors of start lists.
func TestStartErrors(t *testing.T) {
	for _, l := range [][]start.Start{make([]start.Start, 61), {{Bib: 0}}, {{Bib: 1000}}, {{Bib: 1, Time: -1}}, {{Bib: 1, Time: 360001}}, {{Bib: 1, Gate: 61}}, {{Bib: 1, Gate: -1}}, {{Bib: 1}, {Bib: 1}}, {{Bib: 1, Time: 5}, {Bib: 2}}, {{Bib: 1, Time: 5}, {Bib: 1}}} {
		want := start.CheckList(l)
		if s, e := sheet.OfStarts(l); e != want || e == api.OK || s.Kind != 0 || s.Rows != nil {
			t.Error(l, s, e, want)
		}
	}
	isWrong := func(s sheet.Sheet, want api.Errno) {
		t.Helper()
		if l, e := sheet.ToStarts(s); l != nil || e != want {
			t.Error(s, l, e, want)
		}
	}
	isWrong(of(9), api.ErrUnknown)
	isWrong(of(sheet.Cups, row(1)), api.ErrCount)
	isWrong(of(sheet.Cups, row(1, -1, 1)), api.ErrRange)
	isWrong(of(sheet.Cups, []sheet.Cell{text("x"), {}, {}}), api.ErrForm)
	isWrong(of(sheet.Cups, row(1, 1, 1), row(1, 1, 1)), api.ErrTwice)
	isWrong(of(sheet.Cups, row(1, 1, 1), row(0, 1, 1)), api.ErrOrder)
	for _, k := range []sheet.Kind{sheet.Passes, sheet.Targets, sheet.Judgements, sheet.Cups} {
		isWrong(of(k), api.ErrConflict)
	}
	isWrong(of(sheet.Cups, row(0, 0, 0)), api.ErrConflict)
	isWrong(many(61, 1), api.ErrCount)
	isWrong(many(61, 0), api.ErrCount)
	isWrong(starts(0, 0, 0), api.ErrRange)
	isWrong(starts(1000, 0, 0), api.ErrRange)
	isWrong(starts(1, 0, 61), api.ErrRange)
}

// P10.6: the sheet of readings is by skiers, mats and clocks, and the readings of a sheet are in its order.
func TestPasses(t *testing.T) {
	l := []chip.Reading{{Skier: 1, Mat: 2, Clock: 0, Time: 700}, {Skier: 0, Mat: 3, Clock: 1, Time: 9}, {Skier: 1, Mat: 2, Clock: 1, Time: 5}, {Skier: 1, Mat: 1, Clock: 9, Time: 360000}}
	s, e := sheet.OfPasses(l)
	isSheet(t, s, e, of(sheet.Passes, row(0, 3, 1, 9), row(1, 1, 9, 360000), row(1, 2, 0, 700), row(1, 2, 1, 5)))
	if back, e := sheet.ToPasses(s); !slices.Equal(back, []chip.Reading{l[1], l[3], l[0], l[2]}) || e != api.OK {
		t.Error(back, e)
	}
	s, e = sheet.OfPasses([]chip.Reading{{Skier: 999999, Mat: 999999, Clock: 999999, Time: 360000}})
	isSheet(t, s, e, of(sheet.Passes, row(999999, 999999, 999999, 360000)))
	s, e = sheet.OfPasses(nil)
	isSheet(t, s, e, of(sheet.Passes))
	if l, e := sheet.ToPasses(of(sheet.Passes)); len(l) != 0 || e != api.OK {
		t.Error(l, e)
	}
}

// P10.6: the errors of readings.
func TestPassErrors(t *testing.T) {
	isWrong := func(want api.Errno, l ...chip.Reading) {
		t.Helper()
		if s, e := sheet.OfPasses(l); s.Kind != 0 || s.Rows != nil || e != want {
			t.Error(l, s, e, want)
		}
	}
	isWrong(api.ErrCount, make([]chip.Reading, 201)...)
	isWrong(api.ErrCount, slices.Repeat([]chip.Reading{{Skier: -1}}, 201)...)
	isWrong(api.ErrTwice, make([]chip.Reading, 200)...)
	isWrong(api.ErrTwice, chip.Reading{Time: 1}, chip.Reading{Skier: 1}, chip.Reading{Time: 2})
	isWrong(api.ErrRange, chip.Reading{}, chip.Reading{}, chip.Reading{Time: 360001})
	for _, n := range []int{math.MinInt, -1, 1000000, math.MaxInt} {
		isWrong(api.ErrRange, chip.Reading{}, chip.Reading{Skier: n})
		isWrong(api.ErrRange, chip.Reading{}, chip.Reading{Mat: n})
		isWrong(api.ErrRange, chip.Reading{}, chip.Reading{Clock: n})
		isWrong(api.ErrRange, chip.Reading{}, chip.Reading{Time: n})
	}
	for s, want := range map[*sheet.Sheet]api.Errno{
		{Kind: 9}: api.ErrUnknown,
		{Kind: sheet.Starts, Rows: [][]sheet.Cell{nil}}:           api.ErrCount,
		{Kind: sheet.Starts, Rows: [][]sheet.Cell{row(-1, 0, 0)}}: api.ErrRange,
		{Kind: sheet.Starts}:                                                                                  api.ErrConflict,
		{Kind: sheet.Targets}:                                                                                 api.ErrConflict,
		{Kind: sheet.Judgements}:                                                                              api.ErrConflict,
		{Kind: sheet.Cups, Rows: [][]sheet.Cell{row(1, 2, 3)}}:                                                api.ErrConflict,
		{Kind: sheet.Passes, Rows: [][]sheet.Cell{row(1, 2, 3, 360001)}}:                                      api.ErrRange,
		{Kind: sheet.Passes, Rows: [][]sheet.Cell{row(1, 2, 3, 4), row(1, 2, 3, 5)}}:                          api.ErrTwice,
		{Kind: sheet.Passes, Rows: [][]sheet.Cell{row(1, 2, 3, 4), row(1, 2, 2, 5)}}:                          api.ErrOrder,
		{Kind: sheet.Passes, Rows: [][]sheet.Cell{{{Number: 1}, {Number: 2}, {Number: 3}, {Text: "0:00.0"}}}}: api.ErrForm,
	} {
		if l, e := sheet.ToPasses(*s); l != nil || e != want {
			t.Error(s, l, e, want)
		}
	}
}

// P10.6: any start list, and any readings, come back in their order.
func TestAllLists(t *testing.T) {
	g := rand.New(rand.NewSource(10))
	for range 3000 {
		var l []start.Start
		for _, bib := range g.Perm(70)[:g.Intn(61)] {
			l = append(l, start.Start{Bib: bib + 1, Time: g.Intn(20), Gate: g.Intn(61)})
		}
		slices.SortFunc(l, func(a, b start.Start) int { return cmp.Compare(a.Time*1000+a.Bib, b.Time*1000+b.Bib) })
		s, e := sheet.OfStarts(l)
		back, f := sheet.ToStarts(s)
		if e != api.OK || f != api.OK || sheet.Check(s) != api.OK || !slices.Equal(back, l) {
			t.Fatal(l, s, e, back, f)
		}
		var readings []chip.Reading
		for _, n := range g.Perm(300)[:g.Intn(201)] {
			readings = append(readings, chip.Reading{Skier: n / 60, Mat: n / 10 % 6, Clock: n % 10, Time: g.Intn(360001)})
		}
		s, e = sheet.OfPasses(readings)
		again, f := sheet.ToPasses(s)
		slices.SortFunc(readings, func(a, b chip.Reading) int {
			return cmp.Compare(a.Skier*60+a.Mat*10+a.Clock, b.Skier*60+b.Mat*10+b.Clock)
		})
		if e != api.OK || f != api.OK || s.Kind != sheet.Passes || sheet.Check(s) != api.OK || !slices.Equal(again, readings) {
			t.Fatal(readings, s, e, again, f)
		}
	}
}
