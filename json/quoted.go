package json

import (
	"unicode/utf8"

	"storehouse/api"
)

// Numbers that are halves of a character, as escapes tell one that is beyond four sixteenths: the first half is of these from firstHigh on, the second of those from firstLow on.
const (
	firstHigh = 0xd800
	firstLow  = 0xdc00
	lastLow   = 0xdfff
	beyond    = 0x10000
	halfBits  = 10
)

// unitSize is how many sixteenths an escape has.
const unitSize = 4

// quoted is the text that begins here, at its quote.
func (r *reader) quoted() string {
	r.take('"')
	var text []byte
	for !r.takes('"') {
		text = utf8.AppendRune(text, r.character())
	}
	return string(text)
}

// character is the one that stands here, or that an escape tells here.
func (r *reader) character() rune {
	if r.has('\\') {
		return r.escape()
	}
	c, size := utf8.DecodeRuneInString(r.text[r.at:])
	if c < ' ' || c == utf8.RuneError && size <= 1 {
		panic(refusal{api.ErrJson, r.at})
	}
	r.at += size
	return c
}

// escape is the character that the one here tells. Where it ends, as the text does, that is thrown ahead of what it tells.
func (r *reader) escape() rune {
	begin := r.at
	r.at++
	switch c := r.next(); c {
	case '"', '\\', '/':
		return rune(c)
	case 'b':
		return '\b'
	case 'f':
		return '\f'
	case 'n':
		return '\n'
	case 'r':
		return '\r'
	case 't':
		return '\t'
	case 'u':
		return r.coded(begin)
	}
	panic(refusal{api.ErrJson, begin})
}

// coded is the character that sixteenths tell here, of an escape that began there; of two, if the first one tells a half.
func (r *reader) coded(begin int) rune {
	c := r.unit(begin)
	if c < firstHigh || c > lastLow {
		return c
	}
	if c >= firstLow || r.next() != '\\' || r.next() != 'u' {
		panic(refusal{api.ErrJson, begin})
	}
	low := r.unit(begin)
	if low < firstLow || low > lastLow {
		panic(refusal{api.ErrJson, begin})
	}
	return beyond + (c-firstHigh)<<halfBits + (low - firstLow)
}

// unit is the number that four sixteenths tell here.
func (r *reader) unit(begin int) rune {
	unit := rune(0)
	for range unitSize {
		value, ok := valueOf(r.next())
		if !ok {
			panic(refusal{api.ErrJson, begin})
		}
		unit = unit<<4 + value
	}
	return unit
}

// valueOf is the number that a sixteenth tells, small or capital, if it is one.
func valueOf(c byte) (rune, bool) {
	switch {
	case '0' <= c && c <= '9':
		return rune(c - '0'), true
	case 'a' <= c && c <= 'f':
		return rune(c-'a') + 10, true
	case 'A' <= c && c <= 'F':
		return rune(c-'A') + 10, true
	}
	return 0, false
}
