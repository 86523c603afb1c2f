package sheet

import (
	"strconv"
	"strings"

	"klister/api"
)

// reader reads a field as a cell.
type reader func(field string) (Cell, api.Errno)

// manner is how the cells of a column are checked, read and written.
type manner struct {
	ranged func(c Cell) bool // whether a number is within its limits
	formed func(c Cell) bool // whether all else is as it has to be
	read   reader
	write  func(c Cell) string
}

// manner returns the manner of a column.
func (c Column) manner() manner {
	switch c {
	case Number:
		return numbers(MaxNumber, upTo(MaxNumber), strconv.Itoa)
	case Time:
		return numbers(MaxTime, ParseTime, writeTime)
	case Rounds:
		return texts(isRounds)
	default:
		return texts(isWord)
	}
}

// numbers returns the manner of a column of numbers up to a limit.
func numbers(most int, read func(string) (int, api.Errno), write func(int) string) manner {
	return manner{
		ranged: func(c Cell) bool { return within(c.Number, 0, most) },
		formed: func(c Cell) bool { return c.Text == "" },
		read:   numberReader(read),
		write:  func(c Cell) string { return write(c.Number) },
	}
}

// texts returns the manner of a column of texts.
func texts(good func(string) bool) manner {
	return manner{
		ranged: func(Cell) bool { return true },
		formed: func(c Cell) bool { return c.Number == 0 && good(c.Text) },
		read:   textReader(good),
		write:  func(c Cell) string { return c.Text },
	}
}

// numberReader returns the reader of a cell with a number.
func numberReader(read func(string) (int, api.Errno)) reader {
	return func(field string) (Cell, api.Errno) {
		n, e := read(field)
		return Cell{Number: n}, e
	}
}

// textReader returns the reader of a cell with a good text.
func textReader(good func(string) bool) reader {
	return func(field string) (Cell, api.Errno) {
		if !good(field) {
			return Cell{}, api.ErrForm
		}
		return Cell{Text: field}, api.OK
	}
}

// upTo returns how a numeral is read that has a limit.
func upTo(most int) func(string) (int, api.Errno) {
	return func(field string) (int, api.Errno) {
		n, is := numeral(field)
		if !is {
			return 0, api.ErrForm
		}
		if n > most {
			return 0, api.ErrRange
		}
		return n, api.OK
	}
}

// isRounds reports whether a text is rounds.
func isRounds(text string) bool {
	return within(len(text), 5, 8) && strings.Trim(text, "xo") == ""
}

// isWord reports whether a text is a word.
func isWord(text string) bool {
	letter := func(b byte) bool { return 'a' <= b && b <= 'z' }
	return within(len(text), 1, MaxWord) && every([]byte(text), letter)
}

// strict returns how a column of a file is read.
func (c Column) strict() reader { return c.manner().read }

// loose returns how a column of a loose text is read: the same way, but for
// the zeros ahead of a number.
func (c Column) loose() reader {
	read := c.strict()
	if c != Number {
		return read
	}
	return func(field string) (Cell, api.Errno) {
		for len(field) > 1 && field[0] == '0' {
			field = field[1:]
		}
		return read(field)
	}
}
