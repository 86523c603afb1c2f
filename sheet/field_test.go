package sheet_test

import (
	"fmt"
	"math"
	"math/rand"
	"slices"
	"strings"
	"testing"

	"klister/api"
	"klister/sheet"
)

// P10.1: the columns of each kind are those of the table.
func TestColumns(t *testing.T) {
	letters := map[rune]sheet.Column{'N': sheet.Number, 'T': sheet.Time, 'R': sheet.Rounds, 'W': sheet.Word}
	for k, x := range table {
		var want []sheet.Column
		for _, c := range x.columns {
			want = append(want, letters[c])
		}
		l, keys, e := sheet.Columns(sheet.Kind(k))
		if !slices.Equal(l, want) || keys != x.keys || e != api.OK {
			t.Error(k, l, keys, e)
		}
	}
	for _, k := range []sheet.Kind{math.MinInt, -1, 5, math.MaxInt} {
		if l, keys, e := sheet.Columns(k); l != nil || keys != 0 || e != api.ErrUnknown {
			t.Error(k, l, keys, e)
		}
	}
}

// P10.1: each time is written as the terms say, and is read as it is written.
func TestAllTimes(t *testing.T) {
	for tenths := range sheet.MaxTime + 1 {
		want := fmt.Sprintf("%d:%02d.%d", tenths/600, tenths%600/10, tenths%10)
		s, e := sheet.PrintTime(tenths)
		n, f := sheet.ParseTime(want)
		if s != want || e != api.OK || n != tenths || f != api.OK {
			t.Fatal(tenths, s, e, n, f)
		}
	}
	for _, tenths := range []int{math.MinInt, -600, -1, 360001, math.MaxInt} {
		if s, e := sheet.PrintTime(tenths); s != "" || e != api.ErrRange {
			t.Error(tenths, s, e)
		}
	}
}

// P10.1: what is not written as a time has a wrong form, and greater times are out of range.
func TestParseTime(t *testing.T) {
	for text, want := range map[string]api.Errno{
		"": api.ErrForm, "0": api.ErrForm, ":": api.ErrForm, "::": api.ErrForm, ":.": api.ErrForm, "0:.": api.ErrForm,
		"0:00": api.ErrForm, "0:00.": api.ErrForm, "0:0.0": api.ErrForm, "0:000.0": api.ErrForm, "0:00.00": api.ErrForm,
		":00.0": api.ErrForm, "00:00.0": api.ErrForm, "01:00.0": api.ErrForm, "0:60.0": api.ErrForm, "0:99.9": api.ErrForm, "0:59.9": api.OK,
		"0.00:0": api.ErrForm, "0:0.0:0": api.ErrForm, "0:00:0": api.ErrForm, "0.00.0": api.ErrForm, "0:00.0 ": api.ErrForm, " 0:00.0": api.ErrForm, "0: 0.0": api.ErrForm,
		"0:00.0\n": api.ErrForm, "0:00,0": api.ErrForm, "+1:00.0": api.ErrForm, "-1:00.0": api.ErrForm, "0:-1.0": api.ErrForm, "0:+1.0": api.ErrForm, "a:00.0": api.ErrForm,
		"0:0a.0": api.ErrForm, "0:a0.0": api.ErrForm, "0:00.a": api.ErrForm, "1:00.0:": api.ErrForm, "1:00.0.": api.ErrForm, "١:00.0": api.ErrForm, "0:0٠.0": api.ErrForm, "0:00.\xff": api.ErrForm,
		"/:00.0": api.ErrForm, "0:0/.0": api.ErrForm, "0:0:.0": api.ErrForm, "0:00.:": api.ErrForm,
		"600:00.0": api.OK, "600:00.1": api.ErrRange, "599:59.9": api.OK, "601:00.0": api.ErrRange, "601:60.0": api.ErrForm,
		strings.Repeat("9", 100) + ":00.0":              api.ErrRange,
		"18446744073709551616:00.0":                     api.ErrRange,
		"1" + strings.Repeat("0", 70000) + ":59.9":      api.ErrRange,
		"1" + strings.Repeat("0", 70000) + ":60.0":      api.ErrForm,
		strings.Repeat("0", 70000) + ":00.0":            api.ErrForm,
		"0:" + strings.Repeat("0", 70000) + ".0":        api.ErrForm,
		"0:00." + strings.Repeat("0", 70000):            api.ErrForm,
		strings.Repeat("9", 100) + "x" + "99999:00.0":   api.ErrForm,
		strings.Repeat("9", 20) + ":00.0" + "0":         api.ErrForm,
		strings.Repeat("6", 3) + ":0" + "0" + "." + "0": api.ErrRange,
	} {
		if n, e := sheet.ParseTime(text); e != want || e != api.OK && n != 0 {
			t.Error(text, n, e, want)
		}
	}
}

// P10.1: of all short texts of a few bytes those are times that are written so.
func TestAllShortTimes(t *testing.T) {
	times := 0
	var all func(text string, more int)
	all = func(text string, more int) {
		want, value := api.ErrForm, 0
		if isFormed('T', text) {
			want, value = api.OK, valueOf('T', text)
			times++
			if value < 0 {
				want, value = api.ErrRange, 0
			}
		}
		if n, e := sheet.ParseTime(text); n != value || e != want {
			t.Fatal(text, n, e, value, want)
		}
		if more > 0 {
			for _, c := range "0167:.x" {
				all(text+string(c), more-1)
			}
		}
	}
	all("", 7)
	if times < 500 {
		t.Error(times)
	}
}

// P10.1: the sum is that of the terms.
func TestSum(t *testing.T) {
	for text, want := range map[string]int{"": 0, "a": 97, "ab": 3105, "abc": 30833, "\x00": 0, "\x00\x00": 0, "\xff": 255, "é": 31*0xc3 + 0xa9, "\n": 10} {
		if n, e := sheet.Sum(text); n != want || e != api.OK {
			t.Error(text, n, e, want)
		}
	}
	g := rand.New(rand.NewSource(1))
	for range 300 {
		text := make([]byte, g.Intn(100))
		g.Read(text)
		if n, e := sheet.Sum(string(text)); n != sumOf(string(text)) || e != api.OK {
			t.Fatal(text, n, e)
		}
	}
	long := strings.Repeat("\xff", api.MaxText)
	if n, e := sheet.Sum(long); n != sumOf(long) || e != api.OK {
		t.Error(n, e)
	}
	if n, e := sheet.Sum(long + "\x00"); n != 0 || e != api.ErrLarge {
		t.Error(n, e)
	}
}
