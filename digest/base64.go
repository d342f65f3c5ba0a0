package digest

import "storehouse/api"

// the64 are the bytes of base 64 by their values: RFC 4648, section 4.
const the64 = "ABCDEFGHIJKLMNOPQRSTUVWXYZabcdefghijklmnopqrstuvwxyz0123456789+/"

// Base64 is a text in base 64, filled up with `=` to whole fours.
func Base64(s string) string {
	text := make([]byte, 0, (len(s)+2)/3*4)
	for at := 0; at < len(s); at += 3 {
		var three [3]byte
		n := copy(three[:], s[at:])
		all := uint32(three[0])<<16 | uint32(three[1])<<8 | uint32(three[2])
		for i := range 4 {
			if i > n {
				text = append(text, '=')
				continue
			}
			text = append(text, the64[all>>(18-6*i)&63])
		}
	}
	return string(text)
}

// Unbase64 is the text whose Base64 is s; else ErrHex, and the place.
func Unbase64(s string) (string, api.Errno, int) {
	text := make([]byte, 0, len(s)/4*3)
	for at := 0; at < len(s); at += 4 {
		four := s[at:min(at+4, len(s))]
		if i, bad := wrongIn(four, at+4 >= len(s)); bad {
			return "", api.ErrHex, at + i
		}
		three, n := threeOf(four)
		text = append(text, three[:n]...)
	}
	return string(text), api.OK, 0
}

// wrongIn is the place in a four of what makes it none, if anything does; only the last four may be short, or filled up.
func wrongIn(four string, last bool) (int, bool) {
	for i := range len(four) {
		_, ok := valueOf(four[i])
		switch {
		case i == 3 && four[2] == '=':
			ok = four[i] == '='
		case i >= 2 && four[i] == '=':
			ok = last
		}
		if !ok {
			return i, true
		}
	}
	if len(four) < 4 {
		return len(four), true
	}
	return looseIn(four)
}

// looseIn is the place of the byte ahead of the `=` of a right four, if it has bits that are not used but set.
func looseIn(four string) (int, bool) {
	i, mask := 0, byte(0)
	switch {
	case four[2] == '=':
		i, mask = 1, 15
	case four[3] == '=':
		i, mask = 2, 3
	}
	value, _ := valueOf(four[i])
	return i, value&mask != 0
}

// threeOf is the bytes that a right four tells, and how many.
func threeOf(four string) ([3]byte, int) {
	n := 3
	all := uint32(0)
	for i := range 4 {
		value, ok := valueOf(four[i])
		if !ok {
			n--
		}
		all = all<<6 | uint32(value)
	}
	return [3]byte{byte(all >> 16), byte(all >> 8), byte(all)}, n
}

// valueOf is the value of one of the 64 bytes, if c is one.
func valueOf(c byte) (byte, bool) {
	switch {
	case 'A' <= c && c <= 'Z':
		return c - 'A', true
	case 'a' <= c && c <= 'z':
		return c - 'a' + 26, true
	case '0' <= c && c <= '9':
		return c - '0' + 52, true
	case c == '+':
		return 62, true
	case c == '/':
		return 63, true
	}
	return 0, false
}
