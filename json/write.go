package json

import "storehouse/api"

const sixteenths = "0123456789abcdef"

// writer writes a text, and throws what would be too long, so that a long value is not written to its end.
type writer struct{ text []byte }

// written is a value's text.
func written(j api.Json) string {
	if !isRight(j) || !hasNumbers(j) {
		panic(refusal{code: api.ErrJson})
	}
	var w writer
	w.value(j)
	return string(w.text)
}

func (w *writer) add(s string) {
	if len(w.text)+len(s) > api.MaxText {
		panic(refusal{code: api.ErrLong})
	}
	w.text = append(w.text, s...)
}

func (w *writer) value(j api.Json) {
	switch j.Kind {
	case api.JNull:
		w.add("null")
	case api.JFalse:
		w.add("false")
	case api.JTrue:
		w.add("true")
	case api.JNumber:
		w.add(j.Text)
	case api.JText:
		w.quoted(j.Text)
	case api.JList:
		w.add("[")
		w.kids(j)
		w.add("]")
	case api.JObject:
		w.add("{")
		w.kids(j)
		w.add("}")
	}
}

// kids are those of a list, or those of an object with their names.
func (w *writer) kids(j api.Json) {
	for i, kid := range j.Kids {
		if i > 0 {
			w.add(",")
		}
		if j.Kind == api.JObject {
			w.quoted(j.Names[i])
			w.add(":")
		}
		w.value(kid)
	}
}

func (w *writer) quoted(s string) {
	w.add(`"`)
	for i := range len(s) {
		w.add(inQuotes(s[i]))
	}
	w.add(`"`)
}

// inQuotes is how a byte of a text is written.
func inQuotes(c byte) string {
	switch c {
	case '"':
		return `\"`
	case '\\':
		return `\\`
	case '\n':
		return `\n`
	case '\r':
		return `\r`
	case '\t':
		return `\t`
	}
	if c < ' ' {
		return `\u00` + string([]byte{sixteenths[c>>4], sixteenths[c&15]})
	}
	return string([]byte{c})
}
