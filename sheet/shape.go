package sheet

import (
	"slices"

	"klister/api"
)

// shape is what all sheets of a kind have: a word, columns, and how many of
// them are keys.
type shape struct {
	word    string
	columns []Column
	keys    int
}

// shapes returns those of all kinds.
func shapes() [Cups + 1]shape {
	return [...]shape{
		Starts:     {"starts", []Column{Number, Time, Number}, 1},
		Passes:     {"passes", []Column{Number, Number, Number, Time}, 3},
		Targets:    {"targets", []Column{Number, Number, Rounds}, 2},
		Judgements: {"judgements", []Column{Number, Number, Word, Number}, 1},
		Cups:       {"cups", []Column{Number, Number, Number}, 1},
	}
}

// shapeOf returns the shape of a kind, or ErrUnknown.
func shapeOf(k Kind) (shape, api.Errno) {
	if !within(int(k), 0, int(Cups)) {
		return shape{}, api.ErrUnknown
	}
	return shapes()[k], api.OK
}

// Columns returns the columns of a kind, and how many of them are keys.
func Columns(k Kind) ([]Column, int, api.Errno) {
	h, e := shapeOf(k)
	return h.columns, h.keys, e
}

// key is that of a row. If its kind has fewer keys, the last numbers are 0.
type key [3]int

// compare compares two keys, number by number.
func (k key) compare(other key) int { return slices.Compare(k[:], other[:]) }

// key returns the key of a row.
func (h shape) key(row []Cell) key {
	var k key
	for i := range h.keys {
		k[i] = row[i].Number
	}
	return k
}

// byKeys returns rows by their keys.
func (h shape) byKeys(rows [][]Cell) map[key][]Cell {
	found := map[key][]Cell{}
	for _, row := range rows {
		found[h.key(row)] = row
	}
	return found
}

// sheetOf returns the sheet of rows that were found, or ErrCount if there are
// too many.
func sheetOf(k Kind, found map[key][]Cell) (Sheet, api.Errno) {
	if len(found) > MaxRows {
		return Sheet{}, api.ErrCount
	}
	return Sheet{k, mapped(inOrder(found), slices.Clone[[]Cell])}, api.OK
}
