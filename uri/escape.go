package uri

import (
	"strings"

	"storehouse/api"
)

const sixteenths = "0123456789ABCDEF"

// escapeSize is how many bytes an escape has.
const escapeSize = 3

// encode is a text in which each byte that is not plain is an escape.
func encode(s string, plain func(byte) bool) string {
	text := make([]byte, 0, len(s))
	for i := range len(s) {
		if plain(s[i]) {
			text = append(text, s[i])
		} else {
			text = append(text, '%', sixteenths[s[i]>>4], sixteenths[s[i]&15])
		}
	}
	return string(text)
}

// decode is the text that a part tells in escapes; else ErrEscape, and the place of the first one that is none.
func decode(coded part) (string, api.Errno, int) {
	text := make([]byte, 0, len(coded.text))
	for i := 0; i < len(coded.text); i++ {
		c := coded.text[i]
		if c == '%' {
			told, ok := escaped(coded.text[i:])
			if !ok {
				return "", api.ErrEscape, coded.at + i
			}
			c = told
			i += escapeSize - 1
		}
		text = append(text, c)
	}
	return string(text), api.OK, 0
}

// escaped is the byte that the escape at a text's beginning tells, if it is one.
func escaped(s string) (byte, bool) {
	if len(s) < escapeSize {
		return 0, false
	}
	high, low := valueOf(s[1]), valueOf(s[2])
	if high < 0 || low < 0 {
		return 0, false
	}
	return byte(high<<4 | low), true
}

// valueOf is the number that a sixteenth tells; below 0, if c is none.
func valueOf(c byte) int {
	if isSmall(c) {
		c -= 'a' - 'A'
	}
	return strings.IndexByte(sixteenths, c)
}
