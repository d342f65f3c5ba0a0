package xml

import (
	"strings"

	"storehouse/api"
)

// What an answer may have by the document, and what an element takes of it. Elements may hold the same lists again and again, even themselves, so that a copy would have no end.
const (
	mostBytes  = 1<<31 - 1
	mostNested = 1 << 16
	elemBytes  = 56
)

// named are those elements that have a name.
func named(elems []api.Elem, name string) []api.Elem {
	var found []api.Elem
	for _, e := range elems {
		if e.Name == name {
			found = append(found, e)
		}
	}
	return found
}

// measure counts the bytes that a copy takes.
type measure struct{ bytes int }

// canBeCopied tells whether a copy of elements is within the document's bound.
func canBeCopied(elems []api.Elem) bool {
	var m measure
	return m.fits(elems, 1)
}

// fits tells it of elements that are so deep.
func (m *measure) fits(elems []api.Elem, depth int) bool {
	if depth > mostNested && len(elems) > 0 {
		return false
	}
	for _, e := range elems {
		m.bytes += elemBytes + len(e.Name) + len(e.Text)
		if m.bytes > mostBytes || !m.fits(e.Kids, depth+1) {
			return false
		}
	}
	return true
}

// copyOf are elements in memory of their own.
func copyOf(elems []api.Elem) []api.Elem {
	var made []api.Elem
	for _, e := range elems {
		made = append(made, api.Elem{Name: strings.Clone(e.Name), Text: strings.Clone(e.Text), Kids: copyOf(e.Kids)})
	}
	return made
}
