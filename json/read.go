package json

import (
	"strings"

	"storehouse/api"
)

const blanks = " \t\n\r"

// reader reads a text from the front; within so many lists and objects. What can't stand where it is is thrown, so that no call has to ask whether another one went well.
type reader struct {
	text  string
	at    int
	depth int
}

// read is the value that a whole text tells.
func read(s string) api.Json {
	if len(s) > api.MaxText {
		panic(refusal{code: api.ErrLong})
	}
	r := reader{text: s}
	r.skipBlanks()
	j := r.value()
	r.skipBlanks()
	if r.at < len(s) {
		panic(refusal{api.ErrJson, r.at})
	}
	return j
}

// has tells whether a byte stands here.
func (r *reader) has(c byte) bool { return r.at < len(r.text) && r.text[r.at] == c }

// takes tells whether a byte stands here, and goes on behind it.
func (r *reader) takes(c byte) bool {
	if !r.has(c) {
		return false
	}
	r.at++
	return true
}

// take goes on behind a byte, which must stand here.
func (r *reader) take(c byte) {
	if !r.takes(c) {
		panic(refusal{api.ErrJson, r.at})
	}
}

// next is the byte that stands here, behind which the reader goes on; there must be one.
func (r *reader) next() byte {
	if r.at == len(r.text) {
		panic(refusal{api.ErrJson, r.at})
	}
	r.at++
	return r.text[r.at-1]
}

func (r *reader) skipBlanks() {
	for isAt(blanks, r.text, r.at) {
		r.at++
	}
}

// value is the one that begins here.
func (r *reader) value() api.Json {
	switch {
	case r.has('n'):
		return r.word("null", api.JNull)
	case r.has('f'):
		return r.word("false", api.JFalse)
	case r.has('t'):
		return r.word("true", api.JTrue)
	case r.has('"'):
		return api.Json{Kind: api.JText, Text: r.quoted()}
	case r.has('['):
		return r.list()
	case r.has('{'):
		return r.object()
	}
	return r.number()
}

// word is the value that a word tells, which must stand here.
func (r *reader) word(word string, kind int) api.Json {
	for i := range len(word) {
		r.take(word[i])
	}
	return api.Json{Kind: kind}
}

func (r *reader) number() api.Json {
	size, ok := numberSize(r.text[r.at:])
	if !ok {
		panic(refusal{api.ErrJson, r.at + size})
	}
	text := strings.Clone(r.text[r.at:][:size])
	r.at += size
	return api.Json{Kind: api.JNumber, Text: text}
}

func (r *reader) list() api.Json {
	j := api.Json{Kind: api.JList}
	r.members(']', func() {
		j.Kids = append(j.Kids, r.value())
	})
	return j
}

func (r *reader) object() api.Json {
	j := api.Json{Kind: api.JObject}
	r.members('}', func() {
		j.Names = append(j.Names, r.quoted())
		r.skipBlanks()
		r.take(':')
		r.skipBlanks()
		j.Kids = append(j.Kids, r.value())
	})
	return j
}

// members reads the list or object that begins here, and the byte that ends it: each member by this call, the commas between them, and all blanks.
func (r *reader) members(end byte, member func()) {
	if r.depth == api.MaxNest {
		panic(refusal{api.ErrDeep, r.at})
	}
	r.depth++
	r.at++
	r.skipBlanks()
	for many := 0; !r.takes(end); many++ {
		if many > 0 {
			r.take(',')
			r.skipBlanks()
		}
		member()
		r.skipBlanks()
	}
	r.depth--
}
