package sheet

import (
	"iter"
	"strings"

	"klister/api"
)

// line is one of a text, with its number from 1 on, and whether it ends with a
// line feed.
type line struct {
	number int
	text   string
	ended  bool
}

// lines yields the lines of a text, and at last what follows the last line feed,
// also if it is nothing.
func lines(text string) iter.Seq[line] {
	return func(yield func(line) bool) {
		l, rest := line{ended: true}, text
		for l.ended {
			l.number++
			l.text, rest, l.ended = strings.Cut(rest, "\n")
			if !yield(l) {
				return
			}
		}
	}
}

// reading is a text that is read: its sheet so far, and its first error, with
// the line and the field.
type reading struct {
	Sheet
	line, field int
	e           api.Errno
}

// teller tells the error of a field of a line.
type teller func(field int, e api.Errno)

// at returns how errors of a line are told.
func (r *reading) at(l line) teller {
	return func(field int, e api.Errno) { r.line, r.field, r.e = l.number, field, e }
}

// cells reads the fields of a line, and tells the first error.
func cells(fields []string, readers []reader, tell teller) (row []Cell, good bool) {
	good = true
line:
	for i := range max(len(fields), len(readers)) {
		switch c, e := cell(fields, readers, i); e {
		case api.OK:
			row = append(row, c)
		default:
			tell(i+1, e)
			good = false
			break line
		}
	}
	return row, good
}

// cell reads a field of a line, which can be missing, or too many.
func cell(fields []string, readers []reader, i int) (Cell, api.Errno) {
	if i >= len(fields) || i >= len(readers) {
		return Cell{}, api.ErrForm
	}
	return readers[i](fields[i])
}
