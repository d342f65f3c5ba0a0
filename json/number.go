package json

import "strings"

const digits = "0123456789"

// isAt tells whether one of some bytes stands at a place of a text.
func isAt(some, s string, at int) bool {
	return at < len(s) && strings.IndexByte(some, s[at]) >= 0
}

// isNumber tells whether a text is a number and nothing else.
func isNumber(s string) bool {
	size, ok := numberSize(s)
	return ok && size == len(s)
}

// numberSize is how many bytes at a text's beginning go on with a number, and whether they are a whole one: if not, the byte behind them can't stand there.
func numberSize(s string) (int, bool) {
	end, ok := behindInteger(s)
	if ok && isAt(".", s, end) {
		end, ok = behindDigits(s, end+1)
	}
	if ok && isAt("eE", s, end) {
		end++
		if isAt("+-", s, end) {
			end++
		}
		end, ok = behindDigits(s, end)
	}
	return end, ok
}

// behindInteger is the place behind the integer with which a text begins, and whether it is a whole one.
func behindInteger(s string) (int, bool) {
	at := 0
	if isAt("-", s, at) {
		at++
	}
	if isAt("0", s, at) {
		return at + 1, true
	}
	return behindDigits(s, at)
}

// behindDigits is the place behind the digits that stand at a place, and whether there are any.
func behindDigits(s string, at int) (int, bool) {
	end := at
	for isAt(digits, s, end) {
		end++
	}
	return end, end > at
}
