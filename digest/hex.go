package digest

import "storehouse/api"

const sixteenths = "0123456789abcdef"

// Hex is a text in sixteenths, two a byte, the higher half first.
func Hex(s string) string {
	text := make([]byte, 0, 2*len(s))
	for i := range len(s) {
		text = append(text, sixteenths[s[i]>>4], sixteenths[s[i]&15])
	}
	return string(text)
}

// Unhex is the text whose Hex is s; else ErrHex, and the place.
func Unhex(s string) (string, api.Errno, int) {
	text := make([]byte, len(s)/2)
	for i := range len(s) {
		half, ok := halfOf(s[i])
		if !ok {
			return "", api.ErrHex, i
		}
		if i/2 < len(text) {
			text[i/2] = text[i/2]<<4 | half
		}
	}
	if len(s)%2 != 0 {
		return "", api.ErrHex, len(s)
	}
	return string(text), api.OK, 0
}

// halfOf is the half of a byte that a sixteenth tells, if c is one.
func halfOf(c byte) (byte, bool) {
	switch {
	case '0' <= c && c <= '9':
		return c - '0', true
	case 'a' <= c && c <= 'f':
		return c - 'a' + 10, true
	}
	return 0, false
}
