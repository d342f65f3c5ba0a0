package xml

import (
	"strings"
	"unicode/utf8"

	"storehouse/api"
)

// How a number tells a character: what stands ahead of it, and how many digits or sixteenths it has at most.
const (
	byDigits       = "&#"
	mostDigits     = 7
	bySixteenths   = "&#x"
	mostSixteenths = 6
)

// plain is the text that stands here, up to a `<` or the end, and whether it is more than blanks: a character that `&` tells is none.
func (r *reader) plain() (string, bool, error) {
	var text []byte
	more := false
	for r.at < len(r.text) && !r.has("<") {
		isTold := r.has("&")
		c, err := r.character()
		if err != nil {
			return "", false, err
		}
		more = more || isTold || !strings.ContainsRune(blanks, c)
		text = utf8.AppendRune(text, c)
	}
	return string(text), more, nil
}

// character is the one that stands here, or that `&` tells here.
func (r *reader) character() (rune, error) {
	if r.has("&") {
		return r.told()
	}
	c, size := utf8.DecodeRuneInString(r.text[r.at:])
	if c == utf8.RuneError && size == 1 || !isKnown(c) {
		return 0, r.wrong()
	}
	r.at += size
	return c, nil
}

// told is the character that `&` tells here.
func (r *reader) told() (rune, error) {
	rest := r.text[r.at:]
	for _, form := range []struct {
		text string
		c    rune
	}{{"&amp;", '&'}, {"&lt;", '<'}, {"&gt;", '>'}, {"&quot;", '"'}, {"&apos;", '\''}} {
		if r.has(form.text) {
			r.at += len(form.text)
			return form.c, nil
		}
		if strings.HasPrefix(form.text, rest) {
			return 0, r.cutOff()
		}
	}
	if r.has(bySixteenths) {
		return r.numbered(len(bySixteenths), mostSixteenths, 16)
	}
	if r.has(byDigits) {
		return r.numbered(len(byDigits), mostDigits, 10)
	}
	return 0, r.wrong()
}

// numbered is the character whose number stands so far behind this place, with so many digits at most, in this base.
func (r *reader) numbered(ahead, most int, base rune) (rune, error) {
	from := r.at + ahead
	c, at := rune(0), from
	for at < len(r.text) && at < from+most {
		digit := digitOf(r.text[at])
		if digit >= base {
			break
		}
		c = c*base + digit
		at++
	}
	if at == len(r.text) {
		return 0, r.cutOff()
	}
	if at == from || r.text[at] != ';' || !isKnown(c) {
		return 0, r.wrong()
	}
	r.at = at + 1
	return c, nil
}

// cutOff is what is told where a form goes on up to the end, and is not whole.
func (r *reader) cutOff() error { return &api.Fault{Code: api.ErrXml, At: len(r.text)} }

// digitOf is the number that a digit or a letter, small or capital, tells as one of a number; a great one, if it is neither.
func digitOf(c byte) rune {
	switch {
	case '0' <= c && c <= '9':
		return rune(c - '0')
	case 'a' <= c && c <= 'z':
		return rune(c-'a') + 10
	case 'A' <= c && c <= 'Z':
		return rune(c-'A') + 10
	}
	return 1 << 8
}

// isKnown tells whether XML knows a character.
func isKnown(c rune) bool {
	switch {
	case c == '\t' || c == '\n' || c == '\r':
		return true
	case ' ' <= c && c <= 0xd7ff, 0xe000 <= c && c <= 0xfffd, 0x10000 <= c && c <= 0x10ffff:
		return true
	}
	return false
}
