package xml

import (
	"slices"
	"strings"
	"unicode/utf8"

	"storehouse/api"
)

// census counts the elements that were looked at. Elements may hold the same lists again and again, even themselves, so that the numbers alone end the looking.
type census struct{ elems int }

// isRight tells whether an element is as the chapter asks.
func isRight(e api.Elem) bool {
	var c census
	return c.isRight(e, 1)
}

// isRight tells it of one that is so deep.
func (c *census) isRight(e api.Elem, depth int) bool {
	c.elems++
	if c.elems > api.MaxElems || depth > api.MaxNest {
		return false
	}
	if !isName(e.Name) || e.Text != "" && len(e.Kids) > 0 || !isPlain(e.Text) {
		return false
	}
	for _, kid := range e.Kids {
		if !c.isRight(kid, depth+1) {
			return false
		}
	}
	return true
}

// isPlain tells whether a text is UTF-8 of characters that XML knows.
func isPlain(text string) bool {
	return utf8.ValidString(text) && !strings.ContainsFunc(text, func(c rune) bool { return !isKnown(c) })
}

// areSame tells whether two right elements are the same.
func areSame(a, b api.Elem) bool {
	return a.Name == b.Name && a.Text == b.Text && slices.EqualFunc(a.Kids, b.Kids, areSame)
}
