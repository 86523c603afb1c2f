package sheet_test

import (
	"fmt"
	"math/rand"
	"strings"
	"testing"

	"klister/api"
	"klister/sheet"
)

// isFile checks that a text is the file of a sheet.
func isFile(t *testing.T, s sheet.Sheet, file string) {
	t.Helper()
	printed, e := sheet.Print(s)
	if printed != file || e != api.OK {
		t.Error(printed, e, file)
	}
	read, line, field, e := sheet.Parse(file)
	if line != 0 || field != 0 {
		t.Error(line, field)
	}
	isSheet(t, read, e, s)
}

// isWrongAt checks the first error of a text.
func isWrongAt(t *testing.T, file string, line, field int, want api.Errno) {
	t.Helper()
	s, l, f, e := sheet.Parse(file)
	if l != line || f != field || e != want || s.Kind != 0 || s.Rows != nil {
		t.Errorf("%q: %v %v %v %v, not %v %v %v", file, s, l, f, e, line, field, want)
	}
}

// P10.2, P10.3: the file of the first example, and of sheets of all kinds.
func TestFiles(t *testing.T) {
	isFile(t, starts(7, 0, 1, 12, 305, 0), summed("klister starts 2\n7 0:00.0 1\n12 0:30.5 0\n"))
	isFile(t, starts(0, 360000, 999999), summed("klister starts 1\n0 600:00.0 999999\n"))
	isFile(t, of(sheet.Passes, row(0, 2, 1, 9), row(1, 0, 0, 6005)), summed("klister passes 2\n0 2 1 0:00.9\n1 0 0 10:00.5\n"))
	isFile(t, targets(text("xxoxx")), summed("klister targets 1\n1 2 xxoxx\n"))
	isFile(t, judgements(text("loop")), summed("klister judgements 1\n1 2 loop 3\n"))
	isFile(t, of(sheet.Cups, row(5, 60, 1)), summed("klister cups 1\n5 60 1\n"))
	for k, x := range table {
		isFile(t, of(sheet.Kind(k)), summed("klister "+x.word+" 0\n"))
	}
	isFile(t, many(200, 0), fileOf(many(200, 0)))
}

// P10.3: the errors of the first line.
func TestFirstLine(t *testing.T) {
	isWrongAt(t, "", 1, 1, api.ErrForm)
	isWrongAt(t, "\n", 1, 1, api.ErrForm)
	isWrongAt(t, "klister starts 0", 1, 1, api.ErrForm)
	isWrongAt(t, "klister what is this", 1, 1, api.ErrForm)
	isWrongAt(t, "Klister starts 2\n", 1, 1, api.ErrForm)
	isWrongAt(t, "klisters starts 2\n", 1, 1, api.ErrForm)
	isWrongAt(t, " klister starts 2\n", 1, 1, api.ErrForm)
	isWrongAt(t, "klister\tstarts\t2\n", 1, 1, api.ErrForm)
	isWrongAt(t, "sum nothing 201 4\n", 1, 1, api.ErrForm)
	isWrongAt(t, "klister\n", 1, 2, api.ErrForm)
	isWrongAt(t, "klister \n", 1, 2, api.ErrWord)
	isWrongAt(t, "klister start 201 4\n", 1, 2, api.ErrWord)
	isWrongAt(t, "klister Starts 2\n", 1, 2, api.ErrWord)
	isWrongAt(t, "klister 0 2\n", 1, 2, api.ErrWord)
	isWrongAt(t, "klister  starts 2\n", 1, 2, api.ErrWord)
	isWrongAt(t, "klister cups\n", 1, 3, api.ErrForm)
	isWrongAt(t, "klister cups \n", 1, 3, api.ErrForm)
	isWrongAt(t, "klister cups  0\n", 1, 3, api.ErrForm)
	isWrongAt(t, "klister cups 00\n", 1, 3, api.ErrForm)
	isWrongAt(t, "klister cups -0\n", 1, 3, api.ErrForm)
	isWrongAt(t, "klister cups 0x 4\n", 1, 3, api.ErrForm)
	isWrongAt(t, "klister cups 0\r\n", 1, 3, api.ErrForm)
	isWrongAt(t, "klister cups 201 4\n", 1, 3, api.ErrRange)
	isWrongAt(t, "klister cups 18446744073709551616\n", 1, 3, api.ErrRange)
	isWrongAt(t, "klister cups 0 \n", 1, 4, api.ErrForm)
	isWrongAt(t, "klister cups 0 4 5\n", 1, 4, api.ErrForm)
	isWrongAt(t, "klister cups 200\n", 2, 1, api.ErrForm)
}

// P10.3: the errors of rows, those of the third example among them.
func TestRows(t *testing.T) {
	head := "klister starts 2\n"
	isWrongAt(t, head, 2, 1, api.ErrForm)
	isWrongAt(t, head+"7 0:00.0 1", 2, 1, api.ErrForm)
	isWrongAt(t, head+"\n", 2, 1, api.ErrForm)
	isWrongAt(t, head+"7\n", 2, 2, api.ErrForm)
	isWrongAt(t, head+"7 0:00.0\n", 2, 3, api.ErrForm)
	isWrongAt(t, head+"07 0:00.0 1\n", 2, 1, api.ErrForm)
	isWrongAt(t, head+"7a 0:00.0 1\n", 2, 1, api.ErrForm)
	isWrongAt(t, head+"-7 0:00.0 1\n", 2, 1, api.ErrForm)
	isWrongAt(t, head+" 7 0:00.0 1\n", 2, 1, api.ErrForm)
	isWrongAt(t, head+"7  0:00.0 1\n", 2, 2, api.ErrForm)
	isWrongAt(t, head+"7 0:60.0 1\n", 2, 2, api.ErrForm)
	isWrongAt(t, head+"7 305 1\n", 2, 2, api.ErrForm)
	isWrongAt(t, head+"7 601:00.0 1\n", 2, 2, api.ErrRange)
	isWrongAt(t, head+"7 600:00.1 1\n", 2, 2, api.ErrRange)
	isWrongAt(t, head+"1000000 x 1\n", 2, 1, api.ErrRange)
	isWrongAt(t, head+"18446744073709551617 x 1\n", 2, 1, api.ErrRange)
	isWrongAt(t, head+"7 0:00.0 1000000 1\n", 2, 3, api.ErrRange)
	isWrongAt(t, head+"7 0:00.0 1 \n", 2, 4, api.ErrForm)
	isWrongAt(t, head+"7 0:00.0 1 1 1\n", 2, 4, api.ErrForm)
	isWrongAt(t, head+"7 0:00.0 1\r\n", 2, 3, api.ErrForm)
	isWrongAt(t, head+"7 0:00.0 1\n7 0:30.5 0\n", 3, 1, api.ErrTwice)
	isWrongAt(t, head+"7 0:00.0 1\n7 0:00.0 1\n", 3, 1, api.ErrTwice)
	isWrongAt(t, head+"7 0:00.0 1\n6 0:30.5 0\n", 3, 1, api.ErrOrder)
	isWrongAt(t, head+"7 0:00.0 1\n7 0:30.5\n", 3, 3, api.ErrForm)
	isWrongAt(t, head+"7 0:00.0 1\n6 0:30.5 0 0\n", 3, 4, api.ErrForm)
	isWrongAt(t, head+"7 0:00.0 1\n6 0:30.5 1000000\n", 3, 3, api.ErrRange)
	isWrongAt(t, head+"7 0:00.0 1\nsum 5\n", 3, 1, api.ErrForm)
	isWrongAt(t, head+"7 0:00.0 1\n12 0:30.5 0", 3, 1, api.ErrForm)
	for file, want := range map[string]api.Errno{
		"klister targets 1\n1 1 xxxx\n": api.ErrForm, "klister targets 1\n1 1 xxxxxxxxx\n": api.ErrForm, "klister targets 1\n1 1 xxxxX\n": api.ErrForm, "klister targets 1\n1 1\n": api.ErrForm,
		"klister judgements 1\n1 1  1\n": api.ErrForm, "klister judgements 1\n1 1 abcdefghijklm 1\n": api.ErrForm, "klister judgements 1\n1 1 Loop 1\n": api.ErrForm,
		"klister cups 1\n1 1 1000000\n": api.ErrRange, "klister passes 1\n1 1 1000000 0:00.0\n": api.ErrRange,
	} {
		isWrongAt(t, summed(file), 2, 3, want)
	}
	isWrongAt(t, summed("klister passes 2\n1 2 3 0:00.0\n1 2 3 0:00.1\n"), 3, 1, api.ErrTwice)
	isWrongAt(t, summed("klister passes 2\n1 2 3 0:00.0\n1 2 2 0:00.1\n"), 3, 1, api.ErrOrder)
	isWrongAt(t, summed("klister targets 2\n1 2 xxxxx\n1 1 xxxxx\n"), 3, 1, api.ErrOrder)
}

// P10.3: the errors of the last line, and behind it.
func TestLastLine(t *testing.T) {
	body := "klister starts 2\n7 0:00.0 1\n12 0:30.5 0\n"
	full := summed(body)
	isWrongAt(t, body, 4, 1, api.ErrForm)
	isWrongAt(t, body+"\n", 4, 1, api.ErrForm)
	isWrongAt(t, body+"13 0:40.0 0\n", 4, 1, api.ErrForm)
	isWrongAt(t, body+"Sum 5\n", 4, 1, api.ErrForm)
	isWrongAt(t, body+"sums\n", 4, 1, api.ErrForm)
	isWrongAt(t, full[:len(full)-1], 4, 1, api.ErrForm)
	isWrongAt(t, body+"sum\n", 4, 2, api.ErrForm)
	isWrongAt(t, body+"sum \n", 4, 2, api.ErrForm)
	isWrongAt(t, strings.Replace(full, "sum ", "sum 0", 1), 4, 2, api.ErrForm)
	isWrongAt(t, strings.Replace(full, "sum ", "sum  ", 1), 4, 2, api.ErrForm)
	isWrongAt(t, body+"sum 1 x\n", 4, 2, api.ErrWrong)
	isWrongAt(t, body+"sum 65521\n", 4, 2, api.ErrWrong)
	isWrongAt(t, body+"sum 18446744073709551616\n", 4, 2, api.ErrWrong)
	isWrongAt(t, full[:len(full)-1]+" \n", 4, 3, api.ErrForm)
	isWrongAt(t, full[:len(full)-1]+" 1 2\n", 4, 3, api.ErrForm)
	isWrongAt(t, full+"\n", 5, 1, api.ErrForm)
	isWrongAt(t, full+" ", 5, 1, api.ErrForm)
	isWrongAt(t, full+"x", 5, 1, api.ErrForm)
	isWrongAt(t, full+full, 5, 1, api.ErrForm)
	isWrongAt(t, summed("klister cups 0\n")+summed("klister cups 0\n"), 3, 1, api.ErrForm)
}

// P10.3: another number that is the sum modulo 65521 is not the sum.
func TestSumIsExact(t *testing.T) {
	body := "klister cups 0\n"
	for _, n := range []int{sumOf(body) + 65521, sumOf(body) + 14*65521, sumOf(body) - 1, sumOf(body) + 1} {
		isWrongAt(t, fmt.Sprintf("%ssum %d\n", body, n), 2, 2, api.ErrWrong)
	}
}

// P10.3: texts may have api.MaxText bytes.
func TestLongTexts(t *testing.T) {
	isWrongAt(t, strings.Repeat("\n", api.MaxText), 1, 1, api.ErrForm)
	isWrongAt(t, strings.Repeat("\n", api.MaxText+1), 0, 0, api.ErrLarge)
	full := summed("klister cups 0\n")
	isWrongAt(t, full+strings.Repeat("\n", api.MaxText-len(full)), 3, 1, api.ErrForm)
	isWrongAt(t, full+strings.Repeat("\n", api.MaxText-len(full)+1), 0, 0, api.ErrLarge)
	isWrongAt(t, "klister cups "+strings.Repeat("9", api.MaxText-14)+"\n", 1, 3, api.ErrRange)
}

// spoiled returns a text with something changed, mostly with the right sum.
func spoiled(g *rand.Rand, file string) string {
	lines := strings.SplitAfter(file, "\n")
	at, other := g.Intn(len(lines)), g.Intn(len(lines))
	switch g.Intn(9) {
	case 0:
		lines[at] += lines[other]
	case 1:
		lines[at] = ""
	case 2:
		lines[at], lines[other] = lines[other], lines[at]
	default:
		l := lines[at]
		i := g.Intn(len(l) + 1)
		bytes := pick(g, " ", "  ", "0", "1", "9", "99999", ":", ".", "x", "xx", "a", "\n", "\r", "\t", "\x00", "-", "é", "\xff", " 1", " sum", "klister ")
		switch {
		case i < len(l) && g.Intn(3) == 0:
			lines[at] = l[:i] + l[i+1:]
		case i < len(l) && g.Intn(2) == 0:
			lines[at] = l[:i] + bytes + l[i+1:]
		default:
			lines[at] = l[:i] + bytes + l[i:]
		}
	}
	text := strings.Join(lines, "")
	if i := strings.LastIndex(text, "sum"); i >= 0 && g.Intn(4) > 0 {
		return summed(text[:i])
	}
	return text
}

// P10.3: all sheets and first errors are those of the slow reading.
func TestFirstErrors(t *testing.T) {
	g := rand.New(rand.NewSource(3))
	found := map[api.Errno]int{}
	for range 60000 {
		file := fileOf(someSheet(g, sheet.Kind(g.Intn(5))))
		for range g.Intn(4) {
			file = spoiled(g, file)
		}
		want, wantLine, wantField, wantError := firstError(file)
		s, line, field, e := sheet.Parse(file)
		if !same(s, want) || line != wantLine || field != wantField || e != wantError {
			t.Fatalf("%q: %v %v %v %v, not %v %v %v %v", file, s, line, field, e, want, wantLine, wantField, wantError)
		}
		found[e]++
	}
	areCommon(t, found, 100, api.OK, api.ErrForm, api.ErrWord, api.ErrRange, api.ErrTwice, api.ErrOrder, api.ErrWrong)
}

// P10.3: a text that ends too early has its first error where it ends.
func TestBeginnings(t *testing.T) {
	g := rand.New(rand.NewSource(4))
	for range 50 {
		file := fileOf(someSheet(g, sheet.Kind(g.Intn(5))))
		for i := range file {
			isWrongAt(t, file[:i], strings.Count(file[:i], "\n")+1, 1, api.ErrForm)
		}
	}
}
