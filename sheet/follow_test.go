package sheet_test

import (
	"math/rand"
	"slices"
	"testing"

	"klister/api"
	"klister/sheet"
)

// P0.12, P10.7: the file of each sheet is read as that sheet, and a text that is read is the file of what it is read as.
func TestByteForByte(t *testing.T) {
	g := rand.New(rand.NewSource(11))
	read := 0
	for range 30000 {
		s := someSheet(g, sheet.Kind(g.Intn(5)))
		file, e := sheet.Print(s)
		back, _, _, f := sheet.Parse(file)
		if e != api.OK || f != api.OK || !same(s, back) {
			t.Fatal(s, file, e, back, f)
		}
		other := spoiled(g, spoiled(g, file))
		if result, _, _, e := sheet.Parse(other); e == api.OK {
			if again, f := sheet.Print(result); f != api.OK || again != other {
				t.Fatal(other, again, f)
			}
			read++
		}
	}
	if read < 300 {
		t.Error(read)
	}
}

// P0.12, P10.7: no text with one byte changed, or with two neighbours exchanged, is read as the same sheet.
func TestDamagedFiles(t *testing.T) {
	g := rand.New(rand.NewSource(12))
	isSame := func(file []byte, s sheet.Sheet) bool {
		result, _, _, e := sheet.Parse(string(file))
		return e == api.OK && same(result, s)
	}
	for k := range table {
		for range 4 {
			s := someSheet(g, sheet.Kind(k))
			file := []byte(fileOf(s))
			if !isSame(file, s) {
				t.Fatal(s)
			}
			for i := range file {
				for b := range 256 {
					damaged := slices.Clone(file)
					if damaged[i] = byte(b); damaged[i] != file[i] && isSame(damaged, s) {
						t.Fatalf("%q", damaged)
					}
				}
				if i == 0 || file[i-1] == file[i] {
					continue
				}
				exchanged := slices.Clone(file)
				exchanged[i-1], exchanged[i] = file[i], file[i-1]
				if isSame(exchanged, s) {
					t.Fatalf("%q", exchanged)
				}
			}
		}
	}
}

// P10.7: changes that are computed make the one sheet of the other; inverted, they undo that; joined, they do both.
func TestThereAndBack(t *testing.T) {
	g := rand.New(rand.NewSource(13))
	for range 5000 {
		a := someSheet(g, sheet.Kind(g.Intn(5)))
		b := version(g, a)
		c := version(g, b)
		first, e := sheet.Diff(a, b)
		second, f := sheet.Diff(b, c)
		if e != api.OK || f != api.OK {
			t.Fatal(e, f)
		}
		there, e := sheet.Apply(a, first)
		isSheet(t, there, e, b)
		undone, e := sheet.Invert(a.Kind, first)
		if e != api.OK {
			t.Fatal(e)
		}
		back, e := sheet.Apply(b, undone)
		isSheet(t, back, e, a)
		both, e := sheet.Join(a.Kind, first, second)
		if e != api.OK {
			t.Fatal(e)
		}
		end, e := sheet.Apply(a, both)
		isSheet(t, end, e, c)
		if none, e := sheet.Join(a.Kind, first, undone); len(none) != 0 || e != api.OK {
			t.Fatal(none, e)
		}
		if t.Failed() {
			t.Fatal(a, b, c)
		}
	}
}

// P10.7: a merge does not depend on which of both comes first, and with an unchanged version it is the other one.
func TestMergesOfEither(t *testing.T) {
	g := rand.New(rand.NewSource(14))
	for range 5000 {
		base := someSheet(g, sheet.Kind(g.Intn(5)))
		a, b := version(g, base), version(g, base)
		s, keys, e := sheet.Merge(base, a, b)
		if e != api.OK {
			t.Fatal(e)
		}
		isMerged(t, base, a, b, s, keys...)
		isMerged(t, base, a, base, a)
		isMerged(t, base, a, a, a)
		if t.Failed() {
			t.Fatal(base, a, b)
		}
	}
}

// P10.7: what Tidy returns is printed as a file that Tidy reads as the same sheet.
func TestTidyAgain(t *testing.T) {
	g := rand.New(rand.NewSource(15))
	for range 5000 {
		s := someSheet(g, sheet.Kind(g.Intn(5)))
		tidy, _, _, e := sheet.Tidy(s.Kind, handwritten(g, fileOf(s)))
		isSheet(t, tidy, e, s)
		file, e := sheet.Print(tidy)
		again, _, _, f := sheet.Tidy(s.Kind, file)
		isSheet(t, again, f, s)
		if e != api.OK || t.Failed() {
			t.Fatal(s, file, e)
		}
	}
}
