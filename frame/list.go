package frame

import (
	"strings"

	"storehouse/api"
)

// wordSize is how many bytes a number of a list has.
const wordSize = 4

// Num is a number as four bytes, the greatest first.
func Num(n int) (string, error) {
	if n < 0 || n > most32 {
		return "", fault(api.ErrArg, 0)
	}
	return bytesOf(uint64(n), wordSize), nil
}

// List is some texts as one.
func List(l ...string) (string, error) {
	size := wordSize
	for _, text := range l {
		size += wordSize + len(text)
	}
	if size > api.MaxRecord {
		return "", fault(api.ErrArg, 0)
	}
	var list strings.Builder
	list.Grow(size)
	list.WriteString(bytesOf(uint64(len(l)), wordSize))
	for _, text := range l {
		list.WriteString(bytesOf(uint64(len(text)), wordSize))
		list.WriteString(text)
	}
	return list.String(), nil
}

// Split is what List was told; else ErrRecord, and the place.
func Split(s string) ([]string, error) {
	many, ok := countAt(s, 0)
	if !ok {
		return nil, fault(api.ErrRecord, 0)
	}
	var l []string
	at := wordSize
	for range many {
		size, ok := countAt(s, at)
		if !ok {
			return nil, fault(api.ErrRecord, at)
		}
		at += wordSize
		l = append(l, strings.Clone(s[at:at+size]))
		at += size
	}
	if at < len(s) {
		return nil, fault(api.ErrRecord, at)
	}
	// Of so long a text List makes none, so nothing can have been told to it.
	if len(s) > api.MaxRecord {
		return nil, fault(api.ErrRecord, 0)
	}
	return l, nil
}

// countAt is the number that stands at a place, if it is all there and says no more than there are bytes behind it.
func countAt(s string, at int) (int, bool) {
	rest := s[at:]
	if len(rest) < wordSize {
		return 0, false
	}
	n := int(numberOf(rest[:wordSize]))
	return n, n <= len(rest)-wordSize
}
