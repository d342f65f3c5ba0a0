package uri

import "strings"

// The bounds of a bucket's name.
const (
	minName = 3
	maxName = 63
)

// hasFirmEnds tells whether a text, which is not empty, begins and ends as a bucket's name does.
func hasFirmEnds(s string) bool { return isFirm(s[0]) && isFirm(s[len(s)-1]) }

// hasFirmDots tells whether each dot stands between bytes that are neither dots nor hyphens.
func hasFirmDots(s string) bool {
	return !strings.Contains(s, "..") && !strings.Contains(s, "-.") && !strings.Contains(s, ".-")
}

// isAddress tells whether a text is four parts of digits: it would be taken for the address of a machine.
func isAddress(s string) bool {
	return strings.Count(s, ".") == 3 && every(s, func(c byte) bool { return isDigit(c) || c == '.' })
}
