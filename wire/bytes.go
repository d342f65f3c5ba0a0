package wire

const (
	lineFeed = '\n'
	lineEnd  = "\r\n" // as it is written; what is read may lack the first of both
	blanks   = " \t"
)

func isDigit(c byte) bool { return '0' <= c && c <= '9' }

func isCapital(c byte) bool { return 'A' <= c && c <= 'Z' }

func isSixteenth(c byte) bool {
	return isDigit(c) || 'a' <= c && c <= 'f' || 'A' <= c && c <= 'F'
}

// isOfName tells whether a field's name may have a byte.
func isOfName(c byte) bool {
	return isCapital(c) || 'a' <= c && c <= 'z' || isDigit(c) || c == '-' || c == '_'
}

// isOfTarget tells whether a request's target may have a byte.
func isOfTarget(c byte) bool { return '!' <= c && c <= '~' }

// isWritten tells whether a field's value that is written may have a byte.
func isWritten(c byte) bool { return c >= ' ' && c != '\x7f' }

// isRead tells whether a byte may stand in a field's value, or behind a chunk's length, where these are read.
func isRead(c byte) bool { return isWritten(c) || c == '\t' }

// areAll tells whether all bytes of a text are of a kind.
func areAll(s string, kind func(byte) bool) bool {
	for i := range len(s) {
		if !kind(s[i]) {
			return false
		}
	}
	return true
}

// isRow tells whether a text is one or more bytes of a kind.
func isRow(s string, kind func(byte) bool) bool { return s != "" && areAll(s, kind) }

// small is a text with small letters in the place of capitals. (The library's ToLower changes other characters, too.)
func small(s string) string {
	text := []byte(s)
	for i, c := range text {
		if isCapital(c) {
			text[i] = c - 'A' + 'a'
		}
	}
	return string(text)
}

// alike tells whether two texts are the same but for small and capital letters.
func alike(a, b string) bool { return len(a) == len(b) && small(a) == small(b) }
