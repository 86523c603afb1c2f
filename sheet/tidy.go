package sheet

import (
	"slices"
	"strings"

	"klister/api"
)

// gaps are the bytes that separate the fields of a loose text.
type gaps string

// separate reports whether a byte separates fields.
func (g gaps) separate(b rune) bool { return strings.ContainsRune(string(g), b) }

// loose is a loose text that is read, with its rows so far.
type loose struct {
	reading
	shape shape
	found map[key][]Cell
}

// Tidy returns the sheet of a loose text, or the line and the field of its first error.
func Tidy(k Kind, text string) (s Sheet, line, field int, e api.Errno) {
	h, e := shapeOf(k)
	if e != api.OK {
		return Sheet{}, 0, 0, e
	}
	if len(text) > api.MaxText {
		return Sheet{}, 0, 0, api.ErrLarge
	}
	t := loose{reading: reading{Sheet: Sheet{Kind: k}}, shape: h, found: map[key][]Cell{}}
	for l := range lines(text) {
		t.take(l)
		if t.e != api.OK {
			return Sheet{}, t.line, t.field, t.e
		}
	}
	s, e = sheetOf(t.Kind, t.found)
	return s, 0, 0, e
}

// take takes the next line.
func (t *loose) take(l line) {
	fields := strings.FieldsFunc(l.text, gaps("\t\r ").separate)
	if len(fields) == 0 || fields[0] == headWord || fields[0] == sumWord {
		return
	}
	tell := t.at(l)
	if row, good := cells(fields, mapped(t.shape.columns, Column.loose), tell); good {
		t.add(row, tell)
	}
}

// add adds a row, unless another one with the same key was there before.
func (t *loose) add(row []Cell, tell teller) {
	k := t.shape.key(row)
	if other, is := t.found[k]; is && !slices.Equal(other, row) {
		tell(1, api.ErrTwice)
	}
	t.found[k] = row
}
