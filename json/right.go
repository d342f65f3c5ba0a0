package json

import (
	"slices"
	"strings"
	"unicode/utf8"

	"storehouse/api"
)

// census counts the values that were looked at. Values may hold the same lists again and again, even themselves, so that the numbers alone end the looking.
type census struct{ values int }

// isRight tells whether a value is as the chapter asks.
func isRight(j api.Json) bool {
	var c census
	return c.isRight(j, 0)
}

// isRight tells it of a value within so many lists and objects.
func (c *census) isRight(j api.Json, depth int) bool {
	c.values++
	if c.values > api.MaxText {
		return false
	}
	noText, noNames, noKids := j.Text == "", len(j.Names) == 0, len(j.Kids) == 0
	switch j.Kind {
	case api.JNull, api.JFalse, api.JTrue:
		return noText && noNames && noKids
	case api.JNumber:
		return noNames && noKids
	case api.JText:
		return noNames && noKids && utf8.ValidString(j.Text)
	case api.JList:
		return noText && noNames && c.areRight(j.Kids, depth+1)
	case api.JObject:
		return noText && areNames(j.Names, len(j.Kids)) && c.areRight(j.Kids, depth+1)
	}
	return false
}

// areRight tells whether all of a list or an object are right within it, and it may be that deep.
func (c *census) areRight(kids []api.Json, depth int) bool {
	if depth > api.MaxNest {
		return false
	}
	for _, kid := range kids {
		if !c.isRight(kid, depth) {
			return false
		}
	}
	return true
}

// areNames tells whether texts may be the names of so many values.
func areNames(names []string, many int) bool {
	return len(names) == many && !slices.ContainsFunc(names, func(name string) bool { return !utf8.ValidString(name) })
}

// hasNumbers tells whether all numbers in a right value are written as such.
func hasNumbers(j api.Json) bool {
	if j.Kind == api.JNumber {
		return isNumber(j.Text)
	}
	return !slices.ContainsFunc(j.Kids, func(kid api.Json) bool { return !hasNumbers(kid) })
}

// areSame tells whether two right values are the same.
func areSame(a, b api.Json) bool {
	return a.Kind == b.Kind && a.Text == b.Text && slices.Equal(a.Names, b.Names) && slices.EqualFunc(a.Kids, b.Kids, areSame)
}

// copyOf is a right value in memory of its own.
func copyOf(j api.Json) api.Json {
	made := api.Json{Kind: j.Kind, Text: strings.Clone(j.Text)}
	for _, name := range j.Names {
		made.Names = append(made.Names, strings.Clone(name))
	}
	for _, kid := range j.Kids {
		made.Kids = append(made.Kids, copyOf(kid))
	}
	return made
}
