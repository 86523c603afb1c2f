package sheet_test

import (
	"math"
	"math/rand"
	"slices"
	"testing"

	"klister/api"
	"klister/sheet"
)

// text returns a cell with a text.
func text(s string) sheet.Cell { return sheet.Cell{Text: s} }

// of returns a sheet of a kind with rows.
func of(k sheet.Kind, rows ...[]sheet.Cell) sheet.Sheet { return sheet.Sheet{Kind: k, Rows: rows} }

// long returns a row of cells of each list.
func long(lists ...[]sheet.Cell) []sheet.Cell { return slices.Concat(lists...) }

// targets returns a sheet with one row of targets.
func targets(rounds sheet.Cell) sheet.Sheet {
	return of(sheet.Targets, long(row(1, 2), []sheet.Cell{rounds}))
}

// judgements returns a sheet with one row of judgements.
func judgements(word sheet.Cell) sheet.Sheet {
	return of(sheet.Judgements, long(row(1, 2), []sheet.Cell{word}, row(3)))
}

// isRefused checks the error of Check and Print.
func isRefused(t *testing.T, s sheet.Sheet, want api.Errno) {
	t.Helper()
	file, f := sheet.Print(s)
	if e := sheet.Check(s); e != want || f != want || (file == "") != (e != api.OK) {
		t.Error(s, e, f, file, want)
	}
}

// P10.2: kinds and counts come first.
func TestCheckCounts(t *testing.T) {
	for _, k := range []sheet.Kind{math.MinInt, -1, 5, math.MaxInt} {
		isRefused(t, of(k), api.ErrUnknown)
		isRefused(t, of(k, nil, row(-1)), api.ErrUnknown)
	}
	for k := range table {
		isRefused(t, of(sheet.Kind(k)), api.OK)
		isRefused(t, of(sheet.Kind(k), nil), api.ErrCount)
		isRefused(t, of(sheet.Kind(k), row()), api.ErrCount)
		isRefused(t, of(sheet.Kind(k), row(-1, -1)), api.ErrCount)
		isRefused(t, of(sheet.Kind(k), row(-1, -1, -1, -1, -1)), api.ErrCount)
	}
	isRefused(t, starts(1, 0, 0), api.OK)
	isRefused(t, of(sheet.Passes, row(1, 0, 0)), api.ErrCount)
	isRefused(t, of(sheet.Cups, row(1, 0, 0, 0)), api.ErrCount)
	isRefused(t, of(sheet.Starts, row(2, 0, -1), row(1, 0, 0), row(0, 0)), api.ErrCount)
	isRefused(t, many(200, 0), api.OK)
	isRefused(t, many(201, 0), api.ErrCount)
	isRefused(t, sheet.Sheet{Rows: make([][]sheet.Cell, 201)}, api.ErrCount)
	isRefused(t, sheet.Sheet{Rows: slices.Repeat([][]sheet.Cell{row(-1, -1, -1)}, 201)}, api.ErrCount)
}

// P10.2: numbers and times have limits, in each column.
func TestCheckRanges(t *testing.T) {
	isRefused(t, starts(999999, 360000, 999999), api.OK)
	isRefused(t, of(sheet.Passes, row(999999, 999999, 999999, 360000)), api.OK)
	isRefused(t, of(sheet.Cups, row(999999, 999999, 999999)), api.OK)
	for k, x := range table {
		for i, c := range x.columns {
			if c != 'N' && c != 'T' {
				continue
			}
			most := map[rune]int{'N': 999999, 'T': 360000}[c]
			for _, n := range []int{math.MinInt, -1, 0, most, most + 1, math.MaxInt} {
				s := someSheet(rand.New(rand.NewSource(1)), sheet.Kind(k))
				s.Rows = s.Rows[:1]
				s.Rows[0][i].Number = n
				want := api.OK
				if n < 0 || n > most {
					want = api.ErrRange
				}
				isRefused(t, s, want)
			}
		}
	}
	isRefused(t, of(sheet.Starts, row(1, 0, 0), row(1, 0, 0), row(0, -1, 0)), api.ErrRange)
	isRefused(t, of(sheet.Starts, long([]sheet.Cell{text("x")}, row(0, 0)), row(0, 0, -1)), api.ErrRange)
	isRefused(t, of(sheet.Starts, []sheet.Cell{{Number: -1, Text: "x"}, {}, {}}), api.ErrRange)
}

// P10.2: texts are what their columns are, and numbers have none.
func TestCheckForms(t *testing.T) {
	for s, want := range map[string]api.Errno{
		"": api.ErrForm, "xxxx": api.ErrForm, "xxxxx": api.OK, "ooooo": api.OK, "xoxoxoxo": api.OK, "xoxoxo": api.OK, "xxxxxxx": api.OK, "xxxxxxxxx": api.ErrForm,
		"xxaxx": api.ErrForm, "axxxx": api.ErrForm, "xxxxa": api.ErrForm, "xxxxX": api.ErrForm, "Ooooo": api.ErrForm, "00000": api.ErrForm, "xx xx": api.ErrForm, "xxxxx\n": api.ErrForm, "xxxé": api.ErrForm,
	} {
		isRefused(t, targets(text(s)), want)
	}
	for s, want := range map[string]api.Errno{
		"": api.ErrForm, "a": api.OK, "z": api.OK, "az": api.OK, "abcdefghijkl": api.OK, "abcdefghijklm": api.ErrForm,
		"A": api.ErrForm, "aZ": api.ErrForm, "`": api.ErrForm, "{": api.ErrForm, "a b": api.ErrForm, "a1": api.ErrForm, "é": api.ErrForm, "a\n": api.ErrForm, "\xff": api.ErrForm, "a\x00": api.ErrForm,
	} {
		isRefused(t, judgements(text(s)), want)
	}
	for _, n := range []int{math.MinInt, -1, 1, 1000000} {
		isRefused(t, targets(sheet.Cell{Number: n, Text: "xxxxx"}), api.ErrForm)
		isRefused(t, judgements(sheet.Cell{Number: n, Text: "loop"}), api.ErrForm)
		isRefused(t, judgements(sheet.Cell{Number: n}), api.ErrForm)
	}
	for _, s := range []string{"x", "1", "0", "0:00.0", " "} {
		isRefused(t, of(sheet.Starts, []sheet.Cell{text(s), {}, {}}), api.ErrForm)
		isRefused(t, of(sheet.Starts, []sheet.Cell{{}, text(s), {}}), api.ErrForm)
		isRefused(t, of(sheet.Starts, []sheet.Cell{{}, {}, {Number: 5, Text: s}}), api.ErrForm)
	}
	isRefused(t, of(sheet.Starts, row(1, 0, 0), row(1, 0, 0), []sheet.Cell{{}, {}, text("1")}), api.ErrForm)
}

// P10.2, P10.3: of all bytes those of the terms are letters of rounds and words, at each place.
func TestAllBytes(t *testing.T) {
	for b := range 256 {
		for place := range 5 {
			letters := []byte("xoxox")
			letters[place] = byte(b)
			isLetters := func(column rune, s sheet.Sheet, file string) {
				t.Helper()
				want := api.OK
				if !isFormed(column, string(letters)) {
					want = api.ErrForm
				}
				isRefused(t, s, want)
				if e := fourth(sheet.Tidy(s.Kind, file)); e != want && b != '\n' && b != '\t' && b != '\r' && b != ' ' {
					t.Error(file, e, want)
				}
			}
			isLetters('R', targets(text(string(letters))), "1 2 "+string(letters))
			isLetters('W', judgements(text(string(letters))), "1 2 "+string(letters)+" 3")
		}
	}
}

// P10.2: rows are strictly increasing, and the first one that is not says how.
func TestCheckOrders(t *testing.T) {
	isRefused(t, starts(1, 0, 0, 1, 0, 0, 0, 0, 0), api.ErrTwice)
	isRefused(t, starts(1, 0, 0, 1, 5, 5), api.ErrTwice)
	isRefused(t, starts(1, 0, 0, 0, 0, 0, 0, 0, 0), api.ErrOrder)
	isRefused(t, starts(1, 0, 0, 2, 0, 0, 1, 0, 0), api.ErrOrder)
	isRefused(t, starts(1, 9, 9, 2, 0, 0), api.OK)
	isRefused(t, of(sheet.Passes, row(1, 2, 3, 4), row(1, 2, 3, 5)), api.ErrTwice)
	isRefused(t, of(sheet.Passes, row(1, 2, 3, 4), row(1, 2, 4, 0)), api.OK)
	isRefused(t, of(sheet.Passes, row(1, 2, 3, 4), row(1, 3, 0, 0)), api.OK)
	isRefused(t, of(sheet.Passes, row(1, 2, 3, 4), row(2, 0, 0, 0)), api.OK)
	isRefused(t, of(sheet.Passes, row(1, 2, 3, 4), row(1, 2, 2, 9)), api.ErrOrder)
	isRefused(t, of(sheet.Passes, row(1, 2, 3, 4), row(1, 1, 9, 9)), api.ErrOrder)
	isRefused(t, of(sheet.Passes, row(1, 2, 3, 4), row(0, 9, 9, 9)), api.ErrOrder)
	rounds := []sheet.Cell{text("xxxxx")}
	isRefused(t, of(sheet.Targets, long(row(1, 1), rounds), long(row(1, 2), rounds)), api.OK)
	isRefused(t, of(sheet.Targets, long(row(1, 1), rounds), long(row(1, 1), rounds)), api.ErrTwice)
	isRefused(t, of(sheet.Targets, long(row(1, 1), rounds), long(row(1, 0), rounds)), api.ErrOrder)
	word := []sheet.Cell{text("loop")}
	isRefused(t, of(sheet.Judgements, long(row(1, 1), word, row(1)), long(row(1, 2), word, row(2))), api.ErrTwice)
	isRefused(t, of(sheet.Cups, row(1, 1, 1), row(1, 2, 2)), api.ErrTwice)
	isRefused(t, of(sheet.Cups, row(2, 1, 1), row(1, 2, 2)), api.ErrOrder)
}

// P10.2: all errors are those of the slow reading, and files are as the terms say.
func TestCheckAndPrint(t *testing.T) {
	g := rand.New(rand.NewSource(2))
	found := map[api.Errno]int{}
	for range 20000 {
		s := someSheet(g, sheet.Kind(g.Intn(5)))
		for range g.Intn(3) {
			spoil(g, &s)
		}
		want := errorOf(s)
		found[want]++
		file, f := sheet.Print(s)
		if e := sheet.Check(s); e != want || f != want {
			t.Fatal(s, e, f, want)
		}
		if want == api.OK && file != fileOf(s) || want != api.OK && file != "" {
			t.Fatal(s, file)
		}
	}
	areCommon(t, found, 20, api.OK, api.ErrUnknown, api.ErrCount, api.ErrRange, api.ErrForm, api.ErrTwice, api.ErrOrder)
}

// spoil does something to a sheet that mostly isn't allowed.
func spoil(g *rand.Rand, s *sheet.Sheet) {
	if g.Intn(20) == 0 {
		s.Kind = sheet.Kind(pick(g, -1, 5, 6))
	}
	if len(s.Rows) == 0 {
		return
	}
	at := g.Intn(len(s.Rows))
	one := s.Rows[at]
	i := g.Intn(len(one) + 1)
	if i == len(one) {
		s.Rows[at] = pick(g, one[:i/2], append(slices.Clone(one), sheet.Cell{}), nil)
		return
	}
	switch g.Intn(5) {
	case 0:
		one[i].Number = pick(g, -1, 0, 1, 360001, 1000000, math.MaxInt, math.MinInt)
	case 1:
		one[i].Text = pick(g, "", "x", "xxxxx", "A", "xxxxxxxxxxxxx", "a b")
	case 2:
		s.Rows = slices.Insert(s.Rows, at, slices.Clone(one))
	default:
		other := g.Intn(len(s.Rows))
		s.Rows[at], s.Rows[other] = s.Rows[other], s.Rows[at]
	}
}
