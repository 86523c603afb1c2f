package sheet

import (
	"strconv"
	"strings"

	"klister/api"
)

// The words of the first and of the last line of a file.
const (
	headWord = "klister"
	sumWord  = "sum"
)

// joined returns the line of several fields.
func joined(fields ...string) string { return strings.Join(fields, " ") + "\n" }

// Print returns the file of a sheet.
func Print(s Sheet) (string, api.Errno) {
	if e := Check(s); e != api.OK {
		return "", e
	}
	h := shapes()[s.Kind]
	lines := mapped(s.Rows, func(row []Cell) string { return joined(h.fields(row)...) })
	text := joined(headWord, h.word, strconv.Itoa(len(s.Rows))) + strings.Join(lines, "")
	return text + joined(sumWord, strconv.Itoa(sumAfter(0, text))), api.OK
}

// fields returns how the cells of a row are written.
func (h shape) fields(row []Cell) []string {
	var fields []string
	for i := range len(row) {
		fields = append(fields, h.columns[i].manner().write(row[i]))
	}
	return fields
}
