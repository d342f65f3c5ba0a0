package sign

import "strings"

// isOfName tells whether the name of a field that is signed may have a byte.
func isOfName(c byte) bool {
	return 'a' <= c && c <= 'z' || '0' <= c && c <= '9' || c == '-' || c == '_'
}

// isOfMark tells whether an ID, or a region, may have a byte: not those that stand between it and what is beside it.
func isOfMark(c byte) bool { return '!' <= c && c <= '~' && strings.IndexByte("/,=", c) < 0 }

// isRow tells whether a text is one or more bytes of a kind.
func isRow(s string, kind func(byte) bool) bool {
	for i := range len(s) {
		if !kind(s[i]) {
			return false
		}
	}
	return s != ""
}

func isName(s string) bool { return isRow(s, isOfName) }

func isMark(s string) bool { return isRow(s, isOfMark) }
