package coin

import (
	"strconv"
	"strings"

	"statute/api"
)

// groupSize is how many digits stand between two commas.
const groupSize = 3

// Read an amount.
func Read(text string) (int, error) {
	body, negative := strings.CutPrefix(text, "-")
	ahead := len(text) - len(body)
	end := wholeEnd(body)
	whole, cents := body[:end], body[end:]
	if at := wholeFault(whole); at >= 0 {
		return 0, &api.Fault{At: ahead + at, Err: api.ErrText}
	}
	if at := centsFault(cents); at >= 0 {
		return 0, &api.Fault{At: ahead + end + at, Err: api.ErrText}
	}
	n := digitsWorth(whole)*100 + digitsWorth(cents)
	if n > api.MaxCoin {
		return 0, &api.Fault{At: 0, Err: api.ErrCoin}
	}
	if negative {
		n = -n
	}
	return n, nil
}

// wholeEnd is where the digits and commas with which a text begins are over.
func wholeEnd(text string) int {
	return countAhead(text, func(r rune) bool { return isDigit(r) || r == ',' })
}

// countAhead is how many bytes stand ahead of the first character that does not fit.
func countAhead(text string, fits func(r rune) bool) int {
	for i, r := range text {
		if !fits(r) {
			return i
		}
	}
	return len(text)
}

func isDigit(r rune) bool { return '0' <= r && r <= '9' }

// wholeFault is the place at which digits and commas are not as those of an amount; -1: they are.
func wholeFault(whole string) int {
	if whole == "" {
		return 0
	}
	groups := strings.Split(whole, ",")
	if len(groups) == 1 {
		return -1
	}
	first := len(groups[0])
	if first < 1 || first > groupSize {
		return first
	}
	for _, g := range groups[1:] {
		// Groups are told from the right, so one that is wrong makes all of them wrong: the first comma is the place.
		if len(g) != groupSize {
			return first
		}
	}
	return -1
}

// centsFault is the place at which a text is neither nothing nor a point and two digits; -1: it is.
func centsFault(text string) int {
	if text == "" {
		return -1
	}
	if text[0] != '.' {
		return 0
	}
	digits := min(countAhead(text[1:], isDigit), 2)
	if digits == 2 && len(text) == 3 {
		return -1
	}
	return 1 + digits
}

// digitsWorth is the number that the digits of a text make, whatever stands between them; one that is too great for an amount does not grow on.
func digitsWorth(text string) int {
	n := 0
	for _, r := range text {
		if isDigit(r) {
			n = min(n*10+int(r-'0'), api.MaxCoin+1)
		}
	}
	return n
}

// Text of an amount.
func Text(n int) string {
	// The size of the least int is no int.
	size := uint64(n)
	var out strings.Builder
	if n < 0 {
		size = -size
		out.WriteByte('-')
	}
	whole := strconv.FormatUint(size/100, 10)
	for i, digit := range whole {
		if i > 0 && (len(whole)-i)%groupSize == 0 {
			out.WriteByte(',')
		}
		out.WriteRune(digit)
	}
	out.WriteByte('.')
	out.WriteByte(byte('0' + size/10%10))
	out.WriteByte(byte('0' + size%10))
	return out.String()
}
