package sheet

import (
	"strconv"
	"strings"

	"klister/api"
)

// tooMuch is greater than each number that can stand in a file, and stands for
// all numerals that are greater than that.
const tooMuch = MaxNumber + 1

// digits returns the number that some digits are, if a text is nothing else.
func digits(text string) (number int, is bool) {
	for _, c := range text {
		if c < '0' || c > '9' {
			return 0, false
		}
		number = min(10*number+int(c-'0'), tooMuch)
	}
	return number, text != ""
}

// numeral returns the number that a text is, if it is a numeral.
func numeral(text string) (number int, is bool) {
	number, is = digits(text)
	return number, is && (text == "0" || text[0] != '0')
}

// writeTime returns how a time is written.
func writeTime(tenths int) string {
	seconds := tenths / 10 % 60
	return strconv.Itoa(tenths/600) + ":" + strconv.Itoa(seconds/10) + strconv.Itoa(seconds%10) + "." + strconv.Itoa(tenths%10)
}

// PrintTime returns how a time is written.
func PrintTime(tenths int) (string, api.Errno) {
	if !within(tenths, 0, MaxTime) {
		return "", api.ErrRange
	}
	return writeTime(tenths), api.OK
}

// ParseTime returns a time that is written.
func ParseTime(s string) (int, api.Errno) {
	before, after, _ := strings.Cut(s, ":")
	whole, part, _ := strings.Cut(after, ".")
	minutes, isBefore := numeral(before)
	seconds, isWhole := digits(whole)
	tenths, isPart := digits(part)
	if !isBefore || !isWhole || !isPart || len(whole) != 2 || len(part) != 1 || seconds > 59 {
		return 0, api.ErrForm
	}
	time := 600*minutes + 10*seconds + tenths
	if time > MaxTime {
		return 0, api.ErrRange
	}
	return time, api.OK
}

// sumAfter returns the sum of a text that goes on, of which a sum is known.
func sumAfter(sum int, text string) int {
	for i := range len(text) {
		sum = (31*sum + int(text[i])) % 65521
	}
	return sum
}

// Sum returns the sum of a text.
func Sum(text string) (int, api.Errno) {
	if len(text) > api.MaxText {
		return 0, api.ErrLarge
	}
	return sumAfter(0, text), api.OK
}
