package sheet_test

import (
	"fmt"
	"math/big"
	"math/rand"
	"regexp"
	"slices"
	"strings"
	"testing"

	"klister/api"
	"klister/sheet"
)

// second returns the error of a call with one other result.
func second[T any](_ T, e api.Errno) api.Errno { return e }

// third returns the error of a call with two other results.
func third[T, V any](_ T, _ V, e api.Errno) api.Errno { return e }

// fourth returns the error of a call with three other results.
func fourth[T, V, W any](_ T, _ V, _ W, e api.Errno) api.Errno { return e }

// table is what the chapter's table says of each kind: N is a Number, T a Time, R Rounds, W a Word.
var table = []struct {
	word, columns string
	keys          int
}{{"starts", "NTN", 1}, {"passes", "NNNT", 3}, {"targets", "NNR", 2}, {"judgements", "NNWN", 1}, {"cups", "NNN", 1}}

// patterns are how each column is written in a file.
var patterns = map[rune]*regexp.Regexp{
	'N': regexp.MustCompile(`\A(0|[1-9][0-9]*)\z`),
	'T': regexp.MustCompile(`\A(0|[1-9][0-9]*):([0-5][0-9])\.([0-9])\z`),
	'R': regexp.MustCompile(`\A[xo]{5,8}\z`),
	'W': regexp.MustCompile(`\A[a-z]{1,12}\z`),
}

// isFormed reports whether a field is what its column is.
func isFormed(column rune, field string) bool { return patterns[column].MatchString(field) }

// big10 returns the number of some digits.
func big10(digits string) *big.Int {
	n, _ := new(big.Int).SetString(digits, 10)
	return n
}

// valueOf returns the number of a field that is what its column is, -1 if it is too great.
func valueOf(column rune, field string) int {
	most, value := 999999, big.NewInt(0)
	switch column {
	case 'N':
		value = big10(field)
	case 'T':
		parts := patterns['T'].FindStringSubmatch(field)
		most = 360000
		value.Mul(big10(parts[1]), big.NewInt(600))
		value.Add(value, new(big.Int).Mul(big10(parts[2]), big.NewInt(10)))
		value.Add(value, big10(parts[3]))
	}
	if value.Cmp(big.NewInt(int64(most))) > 0 {
		return -1
	}
	return int(value.Int64())
}

// rowOf returns the row of fields, or the field and the error of the first one that is wrong.
func rowOf(k sheet.Kind, fields []string) (row []sheet.Cell, field int, e api.Errno) {
	for i, c := range table[k].columns {
		if i >= len(fields) || !isFormed(c, fields[i]) {
			return nil, i + 1, api.ErrForm
		}
		value := valueOf(c, fields[i])
		if value < 0 {
			return nil, i + 1, api.ErrRange
		}
		if c == 'N' || c == 'T' {
			row = append(row, sheet.Cell{Number: value})
		} else {
			row = append(row, sheet.Cell{Text: fields[i]})
		}
	}
	if len(fields) > len(row) {
		return nil, len(row) + 1, api.ErrForm
	}
	return row, 0, api.OK
}

// compareKeys compares the keys of two rows.
func compareKeys(k sheet.Kind, a, b []sheet.Cell) int {
	for i := 0; i < table[k].keys; i++ {
		if a[i].Number != b[i].Number {
			return a[i].Number - b[i].Number
		}
	}
	return 0
}

// sumOf returns the sum of a text.
func sumOf(text string) int {
	sum := new(big.Int)
	for _, b := range []byte(text) {
		sum.Mul(sum, big.NewInt(31))
		sum.Add(sum, big.NewInt(int64(b)))
	}
	return int(sum.Mod(sum, big.NewInt(65521)).Int64())
}

// summed returns a text with the line of its sum.
func summed(text string) string { return fmt.Sprintf("%ssum %d\n", text, sumOf(text)) }

// firstError reads a file by what the chapter says of its first error, one sentence after the other.
func firstError(text string) (s sheet.Sheet, line, field int, e api.Errno) {
	if len(text) > 65536 {
		return sheet.Sheet{}, 0, 0, api.ErrLarge
	}
	all := strings.Split(text, "\n") // the last one has no line feed
	is := func(n int) bool { return n < len(all)-1 }
	if !is(0) {
		return sheet.Sheet{}, 1, 1, api.ErrForm
	}
	fields := strings.Split(all[0], " ")
	if fields[0] != "klister" {
		return sheet.Sheet{}, 1, 1, api.ErrForm
	}
	if len(fields) < 2 {
		return sheet.Sheet{}, 1, 2, api.ErrForm
	}
	kind := -1
	for k, x := range table {
		if x.word == fields[1] {
			kind = k
		}
	}
	if kind < 0 {
		return sheet.Sheet{}, 1, 2, api.ErrWord
	}
	if len(fields) < 3 || !isFormed('N', fields[2]) {
		return sheet.Sheet{}, 1, 3, api.ErrForm
	}
	if big10(fields[2]).Cmp(big.NewInt(200)) > 0 {
		return sheet.Sheet{}, 1, 3, api.ErrRange
	}
	if len(fields) > 3 {
		return sheet.Sheet{}, 1, 4, api.ErrForm
	}
	s.Kind = sheet.Kind(kind)
	rows := int(big10(fields[2]).Int64())
	for n := 1; n <= rows; n++ {
		if !is(n) {
			return sheet.Sheet{}, n + 1, 1, api.ErrForm
		}
		row, field, e := rowOf(s.Kind, strings.Split(all[n], " "))
		if e != api.OK {
			return sheet.Sheet{}, n + 1, field, e
		}
		if n > 1 && compareKeys(s.Kind, s.Rows[n-2], row) == 0 {
			return sheet.Sheet{}, n + 1, 1, api.ErrTwice
		}
		if n > 1 && compareKeys(s.Kind, s.Rows[n-2], row) > 0 {
			return sheet.Sheet{}, n + 1, 1, api.ErrOrder
		}
		s.Rows = append(s.Rows, row)
	}
	last := rows + 1
	if !is(last) {
		return sheet.Sheet{}, last + 1, 1, api.ErrForm
	}
	fields = strings.Split(all[last], " ")
	switch {
	case fields[0] != "sum":
		return sheet.Sheet{}, last + 1, 1, api.ErrForm
	case len(fields) < 2 || !isFormed('N', fields[1]):
		return sheet.Sheet{}, last + 1, 2, api.ErrForm
	case big10(fields[1]).Cmp(big.NewInt(int64(sumOf(strings.Join(all[:last], "\n")+"\n")))) != 0:
		return sheet.Sheet{}, last + 1, 2, api.ErrWrong
	case len(fields) > 2:
		return sheet.Sheet{}, last + 1, 3, api.ErrForm
	case strings.Join(all[last+1:], "\n") != "":
		return sheet.Sheet{}, last + 2, 1, api.ErrForm
	}
	return s, 0, 0, api.OK
}

// The parts of a loose text.
var (
	separators = regexp.MustCompile(`[\t\r ]+`)
	moreZeros  = regexp.MustCompile(`\A0+([0-9])`)
)

// tidied reads a loose text: of all lines the row, then of all pairs of rows whether they differ.
func tidied(k sheet.Kind, text string) (s sheet.Sheet, line, field int, e api.Errno) {
	if len(text) > 65536 {
		return sheet.Sheet{}, 0, 0, api.ErrLarge
	}
	for n, l := range strings.Split(text, "\n") {
		fields := slices.DeleteFunc(separators.Split(l, -1), func(f string) bool { return f == "" })
		if len(fields) == 0 || fields[0] == "klister" || fields[0] == "sum" {
			continue
		}
		for i, c := range table[k].columns {
			if c == 'N' && i < len(fields) {
				fields[i] = moreZeros.ReplaceAllString(fields[i], "$1")
			}
		}
		row, field, e := rowOf(k, fields)
		if e != api.OK {
			return sheet.Sheet{}, n + 1, field, e
		}
		place, again := 0, false
		for _, other := range s.Rows {
			c := compareKeys(k, other, row)
			if c == 0 && !slices.Equal(other, row) {
				return sheet.Sheet{}, n + 1, 1, api.ErrTwice
			}
			again = again || c == 0
			if c < 0 {
				place++
			}
		}
		if !again {
			s.Rows = slices.Insert(s.Rows, place, row)
		}
	}
	if len(s.Rows) > 200 {
		return sheet.Sheet{}, 0, 0, api.ErrCount
	}
	s.Kind = k
	return s, 0, 0, api.OK
}

// cellErrors returns which errors of cells full rows have.
func cellErrors(k sheet.Kind, rows [][]sheet.Cell) (ranged, formed bool) {
	for _, row := range rows {
		for i, c := range table[k].columns {
			switch n, text := row[i].Number, row[i].Text; c {
			case 'N':
				ranged, formed = ranged || n < 0 || n > 999999, formed || text != ""
			case 'T':
				ranged, formed = ranged || n < 0 || n > 360000, formed || text != ""
			default:
				formed = formed || n != 0 || !isFormed(c, text)
			}
		}
	}
	return ranged, formed
}

// errorOf returns the error of a sheet.
func errorOf(s sheet.Sheet) api.Errno {
	if s.Kind < 0 || s.Kind > 4 {
		return api.ErrUnknown
	}
	count := len(s.Rows) > 200
	for _, row := range s.Rows {
		count = count || len(row) != len(table[s.Kind].columns)
	}
	if count {
		return api.ErrCount
	}
	switch ranged, formed := cellErrors(s.Kind, s.Rows); {
	case ranged:
		return api.ErrRange
	case formed:
		return api.ErrForm
	}
	for i := 1; i < len(s.Rows); i++ {
		if c := compareKeys(s.Kind, s.Rows[i-1], s.Rows[i]); c == 0 {
			return api.ErrTwice
		} else if c > 0 {
			return api.ErrOrder
		}
	}
	return api.OK
}

// changesError returns the error of changes.
func changesError(k sheet.Kind, l []sheet.Change) api.Errno {
	if k < 0 || k > 4 {
		return api.ErrUnknown
	}
	var rows [][]sheet.Cell
	count := len(l) > 400
	for _, c := range l {
		count = count || len(c.Before)+len(c.After) == 0
		for _, row := range [][]sheet.Cell{c.Before, c.After} {
			if len(row) > 0 {
				rows = append(rows, row)
				count = count || len(row) != len(table[k].columns)
			}
		}
	}
	if count {
		return api.ErrCount
	}
	switch ranged, formed := cellErrors(k, rows); {
	case ranged:
		return api.ErrRange
	case formed:
		return api.ErrForm
	}
	for _, c := range l {
		if len(c.Before) > 0 && len(c.After) > 0 && (compareKeys(k, c.Before, c.After) != 0 || slices.Equal(c.Before, c.After)) {
			return api.ErrConflict
		}
	}
	for i := 1; i < len(l); i++ {
		if compareKeys(k, either(l[i-1]), either(l[i])) >= 0 {
			return api.ErrOrder
		}
	}
	return api.OK
}

// either returns a row of a change.
func either(c sheet.Change) []sheet.Cell {
	if len(c.Before) > 0 {
		return c.Before
	}
	return c.After
}

// rowWith returns the row of a sheet that has the key of another row, or nothing.
func rowWith(s sheet.Sheet, other []sheet.Cell) []sheet.Cell {
	for _, row := range s.Rows {
		if compareKeys(s.Kind, row, other) == 0 {
			return row
		}
	}
	return nil
}

// union returns all rows of sheets, by their keys, one of each key.
func union(sheets ...sheet.Sheet) [][]sheet.Cell {
	all := sheet.Sheet{Kind: sheets[0].Kind}
	for _, s := range sheets {
		for _, row := range s.Rows {
			if rowWith(all, row) == nil {
				all.Rows = append(all.Rows, row)
			}
		}
	}
	slices.SortFunc(all.Rows, func(a, b []sheet.Cell) int { return compareKeys(all.Kind, a, b) })
	return all.Rows
}

// changed makes changes one by one: it returns the sheet, or ErrWrong or ErrCount.
func changed(s sheet.Sheet, l []sheet.Change) (sheet.Sheet, api.Errno) {
	after := sheet.Sheet{Kind: s.Kind, Rows: slices.Clone(s.Rows)}
	for _, c := range l {
		if !slices.Equal(rowWith(s, either(c)), c.Before) {
			return sheet.Sheet{}, api.ErrWrong
		}
		after.Rows = slices.DeleteFunc(after.Rows, func(row []sheet.Cell) bool { return slices.Equal(row, c.Before) })
		if len(c.After) > 0 {
			after.Rows = append(after.Rows, c.After)
		}
	}
	if len(after.Rows) > 200 {
		return sheet.Sheet{}, api.ErrCount
	}
	after.Rows = union(after)
	return after, api.OK
}

// merged asks of each key what the three sheets have.
func merged(base, a, b sheet.Sheet) (s sheet.Sheet, conflicts [][]int, e api.Errno) {
	s.Kind = base.Kind
	for _, row := range union(base, a, b) {
		x, y, z := rowWith(base, row), rowWith(a, row), rowWith(b, row)
		result := y
		if slices.Equal(x, y) {
			result = z
		} else if !slices.Equal(x, z) && !slices.Equal(y, z) {
			var k []int
			for i := range table[s.Kind].keys {
				k = append(k, row[i].Number)
			}
			conflicts = append(conflicts, k)
		}
		if len(result) > 0 {
			s.Rows = append(s.Rows, result)
		}
	}
	if len(conflicts) > 0 {
		return sheet.Sheet{}, conflicts, api.OK
	}
	if len(s.Rows) > 200 {
		return sheet.Sheet{}, nil, api.ErrCount
	}
	return s, nil, api.OK
}

// sameRows compares two lists of rows.
func sameRows(a, b [][]sheet.Cell) bool {
	return slices.EqualFunc(a, b, func(x, y []sheet.Cell) bool { return slices.Equal(x, y) })
}

// same compares two sheets.
func same(a, b sheet.Sheet) bool { return a.Kind == b.Kind && sameRows(a.Rows, b.Rows) }

// sameChanges compares two lists of changes.
func sameChanges(a, b []sheet.Change) bool {
	return slices.EqualFunc(a, b, func(x, y sheet.Change) bool {
		return slices.Equal(x.Before, y.Before) && slices.Equal(x.After, y.After)
	})
}

// pick returns one of several things.
func pick[T any](g *rand.Rand, from ...T) T { return from[g.Intn(len(from))] }

// someCell returns a cell of a column, a small number for a key.
func someCell(g *rand.Rand, column rune, isKey bool) sheet.Cell {
	switch {
	case isKey:
		return sheet.Cell{Number: g.Intn(4)}
	case column == 'N':
		return sheet.Cell{Number: pick(g, 0, 1, 2, 9, 10, 99, 1000, 999999)}
	case column == 'T':
		return sheet.Cell{Number: pick(g, 0, 1, 599, 600, 7345, 359999, 360000)}
	case column == 'R':
		return sheet.Cell{Text: pick(g, "xxxxx", "xoxox", "oooooo", "xxxxooo", "oooooooo")}
	}
	return sheet.Cell{Text: pick(g, "a", "loop", "penalty", "zzzzzzzzzzzz")}
}

// someRow returns a row of a kind.
func someRow(g *rand.Rand, k sheet.Kind) []sheet.Cell {
	var row []sheet.Cell
	for i, c := range table[k].columns {
		row = append(row, someCell(g, c, i < table[k].keys))
	}
	if k != sheet.Passes && k != sheet.Targets && g.Intn(3) == 0 {
		row[0].Number = g.Intn(300)
	}
	return row
}

// someSheet returns a sheet of a kind with a few rows.
func someSheet(g *rand.Rand, k sheet.Kind) sheet.Sheet {
	s := sheet.Sheet{Kind: k}
	for range g.Intn(7) {
		s.Rows = append(s.Rows, someRow(g, k))
	}
	s.Rows = union(s)
	return s
}

// version returns a sheet with some rows changed, removed and added.
func version(g *rand.Rand, s sheet.Sheet) sheet.Sheet {
	v := sheet.Sheet{Kind: s.Kind}
	for _, row := range s.Rows {
		switch g.Intn(5) {
		case 0:
		case 1:
			other := someRow(g, s.Kind)
			copy(other, row[:table[s.Kind].keys])
			v.Rows = append(v.Rows, other)
		default:
			v.Rows = append(v.Rows, slices.Clone(row))
		}
	}
	for range g.Intn(3) {
		v.Rows = append(v.Rows, someRow(g, s.Kind))
	}
	v.Rows = union(v)
	return v
}

// fileOf returns the file of a sheet.
func fileOf(s sheet.Sheet) string {
	text := fmt.Sprintf("klister %s %d\n", table[s.Kind].word, len(s.Rows))
	for _, row := range s.Rows {
		var fields []string
		for i, c := range table[s.Kind].columns {
			switch n := row[i].Number; c {
			case 'N':
				fields = append(fields, fmt.Sprint(n))
			case 'T':
				fields = append(fields, fmt.Sprintf("%d:%02d.%d", n/600, n%600/10, n%10))
			default:
				fields = append(fields, row[i].Text)
			}
		}
		text += strings.Join(fields, " ") + "\n"
	}
	return summed(text)
}

// starts returns the sheet of a start list of bibs, times and gates.
func starts(numbers ...int) sheet.Sheet {
	var s sheet.Sheet
	for l := range slices.Chunk(numbers, 3) {
		s.Rows = append(s.Rows, row(l...))
	}
	return s
}

// row returns a row of numbers.
func row(numbers ...int) []sheet.Cell {
	var cells []sheet.Cell
	for _, n := range numbers {
		cells = append(cells, sheet.Cell{Number: n})
	}
	return cells
}

// many returns the sheet of a start list with rows from a bib on.
func many(rows, from int) sheet.Sheet {
	var s sheet.Sheet
	for i := range rows {
		s.Rows = append(s.Rows, row(from+i, 0, 0))
	}
	return s
}

// isSheet checks a sheet.
func isSheet(t *testing.T, s sheet.Sheet, e api.Errno, want sheet.Sheet) {
	t.Helper()
	if !same(s, want) || e != api.OK {
		t.Error(s, e, want)
	}
}

// areCommon checks that errors were found often enough for a test to mean something.
func areCommon(t *testing.T, found map[api.Errno]int, least int, errors ...api.Errno) {
	t.Helper()
	for _, e := range errors {
		if found[e] < least {
			t.Error("hardly ever", e, found[e])
		}
	}
}
