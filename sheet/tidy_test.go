package sheet_test

import (
	"fmt"
	"math"
	"math/rand"
	"strings"
	"testing"

	"klister/api"
	"klister/sheet"
)

// isTidied checks the sheet of a loose text.
func isTidied(t *testing.T, loose string, want sheet.Sheet) {
	t.Helper()
	s, line, field, e := sheet.Tidy(want.Kind, loose)
	if line != 0 || field != 0 {
		t.Error(line, field)
	}
	isSheet(t, s, e, want)
}

// isLooseAt checks the first error of a loose text.
func isLooseAt(t *testing.T, k sheet.Kind, loose string, line, field int, want api.Errno) {
	t.Helper()
	s, l, f, e := sheet.Tidy(k, loose)
	if l != line || f != field || e != want || s.Kind != 0 || s.Rows != nil {
		t.Errorf("%q: %v %v %v %v, not %v %v %v", loose, s, l, f, e, line, field, want)
	}
}

// P10.3: the fourth example, and other texts that were written by hand.
func TestTidy(t *testing.T) {
	two := starts(7, 0, 1, 12, 305, 0)
	isTidied(t, "012   0:30.5 0\n\n7 0:00.0 1", two)
	isTidied(t, "012   0:30.5 0\n\n7 0:00.0 1\n", two)
	isTidied(t, "\t7\r0:00.0 0001 \r\n \t000012\t \t0:30.5 00\r", two)
	isTidied(t, fileOf(two), two)
	isTidied(t, fileOf(two)+fileOf(two), two)
	isTidied(t, "7 0:00.0 1\n12 0:30.5 0\n07 0:00.0 01\n7 0:00.0 1", two)
	isTidied(t, "klister passes 9 x\nsum\n  sum 00\n7 0:00.0 1\nsum of all\n12 0:30.5 0\n\tklister", two)
	isTidied(t, "000000000000000000000000000000000000007 0:00.0 000000000000000000001\n12 0:30.5 0", two)
	isTidied(t, "0000 0:00.0 000", starts(0, 0, 0))
	isTidied(t, "999999 600:00.0 0999999", starts(999999, 360000, 999999))
	for k := range table {
		for _, loose := range []string{"", "\n", " \n\t\n\r\n", "klister", "sum\n", "klister this\n\nsum that"} {
			isTidied(t, loose, of(sheet.Kind(k)))
		}
	}
	isTidied(t, "1 0 0 10:00.5\n0 02 1 0:00.9\n1 0 0 10:00.5\n0 1 9 0:00.0", of(sheet.Passes, row(0, 1, 9, 0), row(0, 2, 1, 9), row(1, 0, 0, 6005)))
	isTidied(t, "01 02 xxoxx", targets(text("xxoxx")))
	isTidied(t, "01 02 loop 03", judgements(text("loop")))
	isTidied(t, "01 02 sum 03", judgements(text("sum")))
	isTidied(t, "2 0 0\n10 0 0\n9 0 0\n1 0 0", of(sheet.Cups, row(1, 0, 0), row(2, 0, 0), row(9, 0, 0), row(10, 0, 0)))
}

// P10.3: the first line with an error counts.
func TestTidyErrors(t *testing.T) {
	for _, k := range []sheet.Kind{math.MinInt, -1, 5, math.MaxInt} {
		isLooseAt(t, k, "x", 0, 0, api.ErrUnknown)
		isLooseAt(t, k, strings.Repeat("x", api.MaxText+1), 0, 0, api.ErrUnknown)
	}
	isLooseAt(t, sheet.Starts, strings.Repeat("x", api.MaxText+1), 0, 0, api.ErrLarge)
	isLooseAt(t, sheet.Starts, strings.Repeat("\n", api.MaxText+1), 0, 0, api.ErrLarge)
	isLooseAt(t, sheet.Starts, strings.Repeat("x", api.MaxText), 1, 1, api.ErrForm)
	isTidied(t, strings.Repeat("\n", api.MaxText), starts())

	isLooseAt(t, sheet.Starts, "7 0:00.0 1\nx", 2, 1, api.ErrForm)
	isLooseAt(t, sheet.Starts, "\n \nklister\n7 0:00.0\n", 4, 3, api.ErrForm)
	isLooseAt(t, sheet.Starts, "7\n", 1, 2, api.ErrForm)
	isLooseAt(t, sheet.Starts, "7 0:00.0 1 2\n", 1, 4, api.ErrForm)
	isLooseAt(t, sheet.Starts, "7 0:00.0 1 2 3\n", 1, 4, api.ErrForm)
	isLooseAt(t, sheet.Starts, "7 00:00.0 1\n", 1, 2, api.ErrForm)
	isLooseAt(t, sheet.Starts, "7 0:0.0 1\n", 1, 2, api.ErrForm)
	isLooseAt(t, sheet.Starts, "0x7 0:00.0 1\n", 1, 1, api.ErrForm)
	isLooseAt(t, sheet.Starts, "-7 0:00.0 1\n", 1, 1, api.ErrForm)
	isLooseAt(t, sheet.Starts, "0-7 0:00.0 1\n", 1, 1, api.ErrForm)
	isLooseAt(t, sheet.Starts, "7\v0:00.0 1\n", 1, 1, api.ErrForm)
	isLooseAt(t, sheet.Starts, "7 0:00.0 1\f\n", 1, 3, api.ErrForm)
	isLooseAt(t, sheet.Starts, "7\u00a00:00.0 1\n", 1, 1, api.ErrForm)
	isLooseAt(t, sheet.Starts, "7 0:00.0 1\x00\n", 1, 3, api.ErrForm)
	isLooseAt(t, sheet.Starts, "\xff\n", 1, 1, api.ErrForm)
	isLooseAt(t, sheet.Starts, "Klister\n", 1, 1, api.ErrForm)
	isLooseAt(t, sheet.Starts, "sums\n", 1, 1, api.ErrForm)
	isLooseAt(t, sheet.Starts, "7 sum 1\n", 1, 2, api.ErrForm)
	isLooseAt(t, sheet.Starts, "7 601:00.0 x\n", 1, 2, api.ErrRange)
	isLooseAt(t, sheet.Starts, "7 0:00.0 01000000\n", 1, 3, api.ErrRange)
	isLooseAt(t, sheet.Starts, "18446744073709551623 x 1\n", 1, 1, api.ErrRange)
	isLooseAt(t, sheet.Targets, "1 1 0xxxxx", 1, 3, api.ErrForm)
	isLooseAt(t, sheet.Judgements, "1 1 0a 1", 1, 3, api.ErrForm)
	isLooseAt(t, sheet.Passes, "1 1 1 00:00.0", 1, 4, api.ErrForm)

	isLooseAt(t, sheet.Starts, "7 0:00.0 1\n7 0:00.0 2\n8 x\n", 2, 1, api.ErrTwice)
	isLooseAt(t, sheet.Starts, "7 0:00.0 1\n8 x\n7 0:00.0 2\n", 2, 2, api.ErrForm)
	isLooseAt(t, sheet.Starts, "7 0:00.0 1\n7 x\n", 2, 2, api.ErrForm)
	isLooseAt(t, sheet.Starts, "7 0:00.0 1\n7 0:00.0 2 3\n", 2, 4, api.ErrForm)
	isLooseAt(t, sheet.Starts, "7 0:00.0 1\n\n8 0:00.0 1\n007 0:00.1 01", 4, 1, api.ErrTwice)
	isLooseAt(t, sheet.Passes, "1 2 3 0:00.1\n1 2 4 0:00.1\n1 2 3 0:00.2\n", 3, 1, api.ErrTwice)
	isLooseAt(t, sheet.Targets, "1 2 xxxxx\n1 2 xxxxo", 2, 1, api.ErrTwice)
	isLooseAt(t, sheet.Judgements, "1 2 loop 3\n1 2 loops 3", 2, 1, api.ErrTwice)
}

// P10.3: there may be MaxRows rows, each of them several times.
func TestTidyCounts(t *testing.T) {
	lines := func(rows int) string {
		var loose strings.Builder
		for i := rows; i > 0; i-- {
			fmt.Fprintln(&loose, i, "0:00.0", 0)
		}
		return loose.String()
	}
	isTidied(t, lines(200), many(200, 1))
	isTidied(t, lines(200)+lines(200)+lines(100), many(200, 1))
	isTidied(t, strings.Repeat("1 0:00.0 0\n", 300), many(1, 1))
	isLooseAt(t, sheet.Starts, lines(201), 0, 0, api.ErrCount)
	isLooseAt(t, sheet.Starts, lines(1000), 0, 0, api.ErrCount)
	isLooseAt(t, sheet.Starts, lines(201)+"x", 202, 1, api.ErrForm)
	isLooseAt(t, sheet.Starts, lines(201)+"201 0:00.0 1", 202, 1, api.ErrTwice)
}

// handwritten returns the lines of a file in any order, with other separators,
// more zeros, and lines that are passed over.
func handwritten(g *rand.Rand, file string) string {
	lines := strings.Split(file, "\n")
	lines = append(lines, pick(g, lines...), pick(g, "", "\r", "klister", " sum x"))
	g.Shuffle(len(lines), func(i, j int) { lines[i], lines[j] = lines[j], lines[i] })
	for i, l := range lines {
		fields := strings.Split(l, " ")
		for j := range fields {
			if isFormed('N', fields[j]) && g.Intn(3) == 0 {
				fields[j] = strings.Repeat("0", 1+g.Intn(3)) + fields[j]
			}
		}
		gap := pick(g, " ", "  ", "\t", " \r ", "\r\t")
		lines[i] = pick(g, "", gap) + strings.Join(fields, gap) + pick(g, "", gap)
	}
	return strings.Join(lines, "\n")
}

// P10.3: all sheets and errors are those of the slow reading.
func TestTidied(t *testing.T) {
	g := rand.New(rand.NewSource(5))
	found := map[api.Errno]int{}
	for range 40000 {
		s := someSheet(g, sheet.Kind(g.Intn(5)))
		if g.Intn(4) == 0 {
			s.Rows = append(s.Rows, version(g, s).Rows...)
		}
		loose := handwritten(g, fileOf(s))
		if g.Intn(2) == 0 {
			loose = spoiled(g, loose)
		}
		want, wantLine, wantField, wantError := tidied(s.Kind, loose)
		result, line, field, e := sheet.Tidy(s.Kind, loose)
		if !same(result, want) || line != wantLine || field != wantField || e != wantError {
			t.Fatalf("%q: %v %v %v %v, not %v %v %v %v", loose, result, line, field, e, want, wantLine, wantField, wantError)
		}
		found[e]++
	}
	areCommon(t, found, 30, api.OK, api.ErrForm, api.ErrRange, api.ErrTwice)
}
