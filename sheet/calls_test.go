package sheet_test

import (
	"math"
	"math/rand"
	"reflect"
	"slices"
	"strings"
	"testing"

	"klister/api"
	"klister/chip"
	"klister/sheet"
	"klister/start"
)

// anyone returns numbers at which something ends, or that no one would pass, and texts like that.
type anyone struct{ *rand.Rand }

func (g anyone) number() int {
	return pick(g.Rand, math.MinInt, -2, -1, 0, 0, 0, 1, 1, 1, 2, 2, 3, 4, 5, 6, 7, 8, 9, 10, 60, 61, 200, 201, 999, 1000, 360000, 360001, 999999, 1000000, math.MaxInt)
}

func (g anyone) kind() sheet.Kind {
	if g.Intn(10) == 0 {
		return sheet.Kind(g.number())
	}
	return sheet.Kind(g.Intn(5))
}

func (g anyone) text() string {
	words := []string{"klister", "sum", "starts", "passes", "targets", "judgements", "cups", "0", "1", "2", "7", "007", "0:00.0", "601:00.0", "xxxxx", "loop", " ", " ", " ", " ", "\n", "\n", "\t", "\r", "\x00", "\xff", "é", ":", "."}
	var text strings.Builder
	for range g.Intn(30) {
		text.WriteString(pick(g.Rand, words...))
	}
	return text.String()
}

// row returns a row that is mostly allowed for some kind.
func (g anyone) row() []sheet.Cell {
	switch g.Intn(8) {
	case 0:
		return nil
	case 1:
		cells := make([]sheet.Cell, g.Intn(6))
		for i := range cells {
			cells[i] = sheet.Cell{Number: g.number(), Text: pick(g.Rand, "", "", "", "x", "xxxxx", g.text())}
		}
		return cells
	}
	return someRow(g.Rand, sheet.Kind(g.Intn(5)))
}

// sheet returns a sheet that is mostly allowed.
func (g anyone) sheet() sheet.Sheet {
	s := someSheet(g.Rand, sheet.Kind(g.Intn(5)))
	switch g.Intn(8) {
	case 0:
		s.Kind = g.kind()
	case 1:
		s.Rows = append(s.Rows, g.row())
	case 2:
		s.Rows = make([][]sheet.Cell, g.Intn(300))
	}
	return s
}

// changes returns changes that are mostly allowed for some kind.
func (g anyone) changes() []sheet.Change {
	l := someChanges(g.Rand, sheet.Kind(g.Intn(5)))
	switch g.Intn(8) {
	case 0:
		l = append(l, sheet.Change{Before: g.row(), After: g.row()})
	case 1:
		l = make([]sheet.Change, g.Intn(500))
	}
	return l
}

// P0.1: no call panics, all end, and beside an error all results are zero (R2), but for a line and a field.
func TestAllArguments(t *testing.T) {
	g := anyone{rand.New(rand.NewSource(16))}
	zero := func(e api.Errno, results ...any) {
		t.Helper()
		for _, x := range results {
			if v := reflect.ValueOf(x); e != api.OK && !v.IsZero() && !(v.Kind() == reflect.Slice && v.Len() == 0) {
				t.Fatal("a result beside an error", e, results)
			}
		}
	}
	sheets := func(s sheet.Sheet, e api.Errno) { t.Helper(); zero(e, s) }
	changes := func(l []sheet.Change, e api.Errno) { t.Helper(); zero(e, l) }
	texts := func(s string, e api.Errno) { t.Helper(); zero(e, s) }
	numbers := func(n int, e api.Errno) { t.Helper(); zero(e, n) }
	read := func(s sheet.Sheet, line, field int, e api.Errno) {
		t.Helper()
		zero(e, s)
		if inside := e != api.OK && e != api.ErrLarge && e != api.ErrUnknown && e != api.ErrCount; (line > 0) != inside || (field > 0) != inside {
			t.Fatal(line, field, e)
		}
	}
	for range 10000 {
		k, s, other, l, n := g.kind(), g.sheet(), g.sheet(), g.changes(), g.number()
		columns, keys, e := sheet.Columns(k)
		zero(e, columns, keys)
		texts(sheet.PrintTime(n))
		numbers(sheet.ParseTime(g.text()))
		numbers(sheet.Sum(g.text()))
		sheet.Check(s)
		texts(sheet.Print(s))
		read(sheet.Parse(g.text()))
		read(sheet.Parse("klister " + g.text()))
		read(sheet.Tidy(k, g.text()))
		sheet.CheckChanges(k, l)
		changes(sheet.Diff(s, other))
		sheets(sheet.Apply(s, l))
		changes(sheet.Invert(k, l))
		changes(sheet.Join(k, l, g.changes()))
		merged, conflicts, e := sheet.Merge(g.sheet(), s, other)
		zero(e, merged, conflicts)
		if len(conflicts) > 0 && !reflect.ValueOf(merged).IsZero() {
			t.Fatal("a sheet beside conflicts", merged, conflicts)
		}
		sheets(sheet.OfStarts(make([]start.Start, g.Intn(70))))
		sheets(sheet.OfStarts([]start.Start{{Bib: n, Time: g.number(), Gate: g.number()}, {Bib: g.number(), Time: g.number()}}))
		list, e := sheet.ToStarts(s)
		zero(e, list)
		sheets(sheet.OfPasses(make([]chip.Reading, g.Intn(3))))
		sheets(sheet.OfPasses([]chip.Reading{{Skier: n, Mat: g.number(), Clock: g.number(), Time: g.number()}, {Time: g.number()}}))
		readings, e := sheet.ToPasses(s)
		zero(e, readings)
	}
}

// P0.1: great texts, rows and lists end.
func TestGreatArguments(t *testing.T) {
	long := strings.Repeat("9", 1<<20)
	if n, e := sheet.ParseTime(long + ":00.0"); n != 0 || e != api.ErrRange {
		t.Error(n, e)
	}
	if n, e := sheet.ParseTime(strings.Repeat("0:", 1<<20)); n != 0 || e != api.ErrForm {
		t.Error(n, e)
	}
	isRefused(t, judgements(text(long)), api.ErrForm)
	isRefused(t, targets(text(strings.Repeat("x", 1<<20))), api.ErrForm)
	isRefused(t, of(sheet.Starts, make([]sheet.Cell, 1<<20)), api.ErrCount)
	isRefused(t, of(sheet.Starts, make([][]sheet.Cell, 1<<20)...), api.ErrCount)
	areRefused(t, sheet.Starts, make([]sheet.Change, 1<<20), api.ErrCount)
	if e := second(sheet.OfPasses(make([]chip.Reading, 1<<20))); e != api.ErrCount {
		t.Error(e)
	}
	if e := second(sheet.OfStarts(make([]start.Start, 1<<20))); e != api.ErrCount {
		t.Error(e)
	}
	isLooseAt(t, sheet.Starts, strings.Repeat(" ", api.MaxText-1)+"x", 1, 1, api.ErrForm)
	isTidied(t, strings.Repeat("0", api.MaxText-10)+"7 0:00.0 1", starts(7, 0, 1))
}

// R3: nil and empty lists are the same.
func TestNilAndEmpty(t *testing.T) {
	empty := sheet.Sheet{Rows: [][]sheet.Cell{}}
	isFile(t, empty, summed("klister starts 0\n"))
	areRefused(t, sheet.Starts, []sheet.Change{}, api.OK)
	l := list(sheet.Change{Before: []sheet.Cell{}, After: row(1, 0, 0)})
	areRefused(t, sheet.Starts, l, api.OK)
	s, e := sheet.Apply(empty, l)
	isSheet(t, s, e, starts(1, 0, 0))
	back, e := sheet.Apply(s, list(sheet.Change{Before: row(1, 0, 0), After: []sheet.Cell{}}))
	isSheet(t, back, e, empty)
	if joined, e := sheet.Join(sheet.Starts, l, list(sheet.Change{Before: row(1, 0, 0), After: []sheet.Cell{}})); len(joined) != 0 || e != api.OK {
		t.Error(joined, e)
	}
	if joined, e := sheet.Join(sheet.Starts, list(out(1, 0, 0)), l); len(joined) != 0 || e != api.OK {
		t.Error(joined, e)
	}
	isMerged(t, empty, starts(), empty, starts())
}

// roomy returns a copy of a sheet with room behind its rows, and behind all of them.
func roomy(s sheet.Sheet) sheet.Sheet {
	rows := make([][]sheet.Cell, 0, len(s.Rows)+9)
	for _, row := range s.Rows {
		rows = append(rows, append(make([]sheet.Cell, 0, len(row)+9), row...))
	}
	return sheet.Sheet{Kind: s.Kind, Rows: rows}
}

// overwrite writes into all rows, and behind them.
func overwrite(rows ...[]sheet.Cell) {
	for _, row := range rows {
		for i := range row {
			row[i] = sheet.Cell{Number: -9, Text: "overwritten"}
		}
		_ = append(row, sheet.Cell{Number: -9})
	}
}

// overwriteChanges writes into all rows of changes.
func overwriteChanges(l []sheet.Change) {
	for i := range l {
		overwrite(l[i].Before, l[i].After)
		l[i] = sheet.Change{}
	}
}

// R4: arguments are not modified, and results are new.
func TestMemory(t *testing.T) {
	a, b, l := fifth()
	base, other, changes := roomy(a), roomy(b), slices.Grow(slices.Clone(l), 9)
	for i := range changes {
		changes[i] = sheet.Change{Before: slices.Grow(slices.Clone(l[i].Before), 9), After: slices.Grow(slices.Clone(l[i].After), 9)}
	}
	more := list(put(8, 0, 0), put(20, 0, 0))
	starting := []start.Start{{Bib: 9}, {Bib: 3, Time: 5}, {Bib: 1, Time: 5}}
	readings := []chip.Reading{{Skier: 1}, {Skier: 0}}
	for range 2 {
		for _, call := range []func() (sheet.Sheet, api.Errno){
			func() (sheet.Sheet, api.Errno) { return sheet.Apply(base, changes) },
			func() (sheet.Sheet, api.Errno) { return sheet.Apply(base, nil) },
			func() (sheet.Sheet, api.Errno) { s, _, e := sheet.Merge(base, other, base); return s, e },
			func() (sheet.Sheet, api.Errno) { s, _, e := sheet.Merge(base, base, base); return s, e },
			func() (sheet.Sheet, api.Errno) { return sheet.OfStarts(starting) },
			func() (sheet.Sheet, api.Errno) { return sheet.OfPasses(readings) },
			func() (sheet.Sheet, api.Errno) { s, _, _, e := sheet.Parse(fileOf(a)); return s, e },
			func() (sheet.Sheet, api.Errno) { s, _, _, e := sheet.Tidy(0, fileOf(a)); return s, e },
		} {
			s, e := call()
			if e != api.OK || sheet.Check(s) != api.OK || len(s.Rows) < 2 {
				t.Fatal(s, e)
			}
			first := slices.Clone(s.Rows[0])
			_ = append(s.Rows[0], sheet.Cell{Number: -9})
			overwrite(s.Rows[1])
			if !slices.Equal(s.Rows[0], first) {
				t.Fatal("rows of a result share memory")
			}
			overwrite(s.Rows...)
		}
		for _, call := range []func() ([]sheet.Change, api.Errno){
			func() ([]sheet.Change, api.Errno) { return sheet.Diff(base, other) },
			func() ([]sheet.Change, api.Errno) { return sheet.Invert(0, changes) },
			func() ([]sheet.Change, api.Errno) { return sheet.Join(0, changes, more) },
			func() ([]sheet.Change, api.Errno) { return sheet.Join(0, more, changes) },
		} {
			l, e := call()
			if e != api.OK || sheet.CheckChanges(0, l) != api.OK || len(l) < 3 {
				t.Fatal(l, e)
			}
			overwriteChanges(l)
		}
		columns, _, _ := sheet.Columns(0)
		columns[0] = 9
		_, conflicts, _ := sheet.Merge(base, other, starts())
		if len(conflicts) != 1 || conflicts[0][0] != 7 {
			t.Fatal(conflicts)
		}
		conflicts[0][0] = 9
		list, _ := sheet.ToStarts(base)
		passes, _ := sheet.ToPasses(of(sheet.Passes, row(1, 2, 3, 4)))
		list[0].Bib, passes[0].Skier = 9, 9
		sheet.Check(base)
		sheet.Print(base)
		if !same(base, a) || !same(other, b) || !sameChanges(changes, l) || !sameChanges(more, []sheet.Change{put(8, 0, 0), put(20, 0, 0)}) || starting[0].Bib != 9 || starting[2].Bib != 1 || readings[0].Skier != 1 {
			t.Fatal("an argument was modified")
		}
		if base.Rows[0][:9][3] != (sheet.Cell{}) || base.Rows[:9][2] != nil || changes[0].Before[:9][3] != (sheet.Cell{}) {
			t.Fatal("memory behind an argument was modified")
		}
	}
}

// R6: all results are the same at each call.
func TestSameResults(t *testing.T) {
	g := anyone{rand.New(rand.NewSource(17))}
	for range 500 {
		base := someSheet(g.Rand, sheet.Kind(g.Intn(5)))
		a, b := version(g.Rand, base), version(g.Rand, base)
		loose, file := handwritten(g.Rand, fileOf(base)), spoiled(g.Rand, fileOf(a))
		all := func() []any {
			l, e := sheet.Diff(base, a)
			m, f := sheet.Diff(a, b)
			after, h := sheet.Apply(base, l)
			joined, i := sheet.Join(base.Kind, l, m)
			merged, conflicts, j := sheet.Merge(base, a, b)
			tidy, line, field, k := sheet.Tidy(base.Kind, loose)
			read, at, in, n := sheet.Parse(file)
			return []any{l, e, m, f, after, h, joined, i, merged, conflicts, j, tidy, line, field, k, read, at, in, n}
		}
		if first := all(); !reflect.DeepEqual(first, all()) || !reflect.DeepEqual(first, all()) {
			t.Fatal(base, a, b, first)
		}
	}
}
