package xml

// maxName is how many bytes a name has at most.
const maxName = 100

// isName tells whether a text is an element's name.
func isName(s string) bool {
	return 0 < len(s) && len(s) <= maxName && nameSize(s, isInName) == len(s)
}

// nameSize is how many bytes at a text's beginning go on with a name, be they too many, too: those behind the first one are told by isIn. It is 0 where no name begins.
func nameSize(s string, isIn func(byte) bool) int {
	if s == "" || !isFirstOfName(s[0]) {
		return 0
	}
	size := 1
	for size < len(s) && isIn(s[size]) {
		size++
	}
	return size
}

func isFirstOfName(c byte) bool {
	return 'a' <= c && c <= 'z' || 'A' <= c && c <= 'Z' || c == '_'
}

func isInName(c byte) bool {
	return isFirstOfName(c) || '0' <= c && c <= '9' || c == '-' || c == '.'
}

func isInAttributeName(c byte) bool { return isInName(c) || c == ':' }
