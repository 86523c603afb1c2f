package sheet

import (
	"strings"

	"klister/api"
)

// file is a file that is read: how many rows it has, as its first line says,
// and the sum of the lines so far.
type file struct {
	reading
	many, sum int
}

// Parse returns the sheet of a file, or the line and the field of its first error.
func Parse(text string) (s Sheet, line, field int, e api.Errno) {
	if len(text) > api.MaxText {
		return Sheet{}, 0, 0, api.ErrLarge
	}
	var f file
	for l := range lines(text) {
		f.take(l)
		if f.e != api.OK {
			return Sheet{}, f.line, f.field, f.e
		}
	}
	return f.Sheet, 0, 0, api.OK
}

// take takes the next line, or what follows the last one, which has to be nothing.
func (f *file) take(l line) {
	isBehind := l.number == f.many+3
	switch tell := f.at(l); {
	case isBehind && l.text == "" && !l.ended:
	case isBehind || !l.ended:
		tell(1, api.ErrForm)
	default:
		f.read(l, tell)
		f.sum = sumAfter(f.sum, l.text+"\n")
	}
}

// read reads the first line, a row, or the last line.
func (f *file) read(l line, tell teller) {
	fields := strings.Split(l.text, " ")
	switch l.number {
	case 1:
		readers := []reader{exactly(headWord), readKind, numberReader(upTo(MaxRows))}
		if head, good := cells(fields, readers, tell); good {
			f.Kind, f.many = Kind(head[1].Number), head[2].Number
		}
	case f.many + 2:
		cells(fields, []reader{exactly(sumWord), f.readSum}, tell)
	default:
		h := shapes()[f.Kind]
		if row, good := cells(fields, mapped(h.columns, Column.strict), tell); good {
			f.add(h, row, tell)
		}
	}
}

// add adds a row behind the last one.
func (f *file) add(h shape, row []Cell, tell teller) {
	if last := len(f.Rows) - 1; last >= 0 {
		if e := h.follows(f.Rows[last], row); e != api.OK {
			tell(1, e)
		}
	}
	f.Rows = append(f.Rows, row)
}

// exactly returns the reader of one word.
func exactly(word string) reader {
	return textReader(func(field string) bool { return field == word })
}

// readKind reads the word of a kind, as its number.
func readKind(field string) (Cell, api.Errno) {
	for k, h := range shapes() {
		if h.word == field {
			return Cell{Number: k}, api.OK
		}
	}
	return Cell{}, api.ErrWord
}

// readSum reads the sum of the lines so far.
func (f *file) readSum(field string) (Cell, api.Errno) {
	n, is := numeral(field)
	if !is {
		return Cell{}, api.ErrForm
	}
	if n != f.sum {
		return Cell{}, api.ErrWrong
	}
	return Cell{Number: n}, api.OK
}
