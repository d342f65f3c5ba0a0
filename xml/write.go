package xml

import "storehouse/api"

const head = `<?xml version="1.0" encoding="UTF-8"?>` + "\n"

// writer writes a text. Each of its calls tells whether there was room, so that what is too long is not written to its end.
type writer struct{ text []byte }

func (w *writer) add(pieces ...string) bool {
	for _, piece := range pieces {
		if len(w.text)+len(piece) > api.MaxAnswer {
			return false
		}
		w.text = append(w.text, piece...)
	}
	return true
}

func (w *writer) element(e api.Elem) bool {
	if e.Text == "" && len(e.Kids) == 0 {
		return w.add("<", e.Name, "/>")
	}
	return w.add("<", e.Name, ">") && w.plain(e.Text) && w.kids(e.Kids) && w.add("</", e.Name, ">")
}

func (w *writer) kids(kids []api.Elem) bool {
	for _, kid := range kids {
		if !w.element(kid) {
			return false
		}
	}
	return true
}

func (w *writer) plain(text string) bool {
	for i := range len(text) {
		if !w.add(inPlain(text[i : i+1])) {
			return false
		}
	}
	return true
}

// inPlain is how a byte of a text is written.
func inPlain(c string) string {
	switch c {
	case "&":
		return "&amp;"
	case "<":
		return "&lt;"
	case ">":
		return "&gt;"
	case `"`:
		return "&quot;"
	case "\r":
		return "&#13;"
	}
	return c
}
