package uri

import "strings"

func isDigit(c byte) bool { return '0' <= c && c <= '9' }

func isSmall(c byte) bool { return 'a' <= c && c <= 'z' }

func isCapital(c byte) bool { return 'A' <= c && c <= 'Z' }

// isFirm tells whether a bucket's name may begin and end with a byte.
func isFirm(c byte) bool { return isSmall(c) || isDigit(c) }

// isOfName tells whether a bucket's name may have a byte.
func isOfName(c byte) bool { return isFirm(c) || c == '-' || c == '.' }

// isPlain tells whether a byte needs no escape, wherever it stands.
func isPlain(c byte) bool {
	return isSmall(c) || isCapital(c) || isDigit(c) || strings.IndexByte("-._~", c) >= 0
}

// isPlainInPath tells whether a byte needs no escape in a path.
func isPlainInPath(c byte) bool { return isPlain(c) || c == '/' }

// isStrange tells whether a target may not have a byte.
func isStrange(c byte) bool { return c < '!' || c > '~' || c == '#' }

// is tells of a byte whether it is this one.
func is(one byte) func(byte) bool {
	return func(c byte) bool { return c == one }
}

// never tells of no byte that it ends a part.
func never(byte) bool { return false }

// lengthTo is how many bytes stand ahead of the first that ends them; all, if none does.
func lengthTo(s string, ends func(byte) bool) int {
	for i := range len(s) {
		if ends(s[i]) {
			return i
		}
	}
	return len(s)
}

// every tells whether all bytes of a text are of a kind.
func every(s string, kind func(byte) bool) bool {
	return lengthTo(s, func(c byte) bool { return !kind(c) }) == len(s)
}

// part is a piece of a text, and its place there.
type part struct {
	text string
	at   int
}

// cutter cuts parts off a text from the front: each call is what stands ahead of the first byte that ends it, and drops that byte; or all that is left, if none ends it.
func cutter(left part) func(ends func(byte) bool) part {
	return func(ends func(byte) bool) part {
		size := lengthTo(left.text, ends)
		first := part{left.text[:size], left.at}
		size = min(size+1, len(left.text))
		left = part{left.text[size:], left.at + size}
		return first
	}
}
