package xml

import (
	"strings"

	"storehouse/api"
)

const blanks = " \t\n\r"

// reader reads a text from the front.
type reader struct {
	text string
	at   int
}

// open is an element whose end has not come.
type open struct {
	api.Elem
	hasText bool // the Text is more than blanks, so that no element may stand behind it
}

// document is the element of a whole text.
func (r *reader) document() (api.Elem, error) {
	r.skipBlanks()
	if err := r.skipHead(); err != nil {
		return api.Elem{}, err
	}
	e, err := r.element()
	if err != nil {
		return api.Elem{}, err
	}
	r.skipBlanks()
	if r.at < len(r.text) {
		return api.Elem{}, r.wrong()
	}
	return e, nil
}

// element is the one that begins here. Those that are open stand on a pile: it goes down where one begins, and up behind each end.
func (r *reader) element() (api.Elem, error) {
	var pile []open
down:
	for {
		inner, ended, err := r.begin(pile)
		if err != nil {
			return api.Elem{}, err
		}
		pile = append(pile, inner)
		for {
			last := len(pile) - 1
			if !ended {
				if !r.has("</") {
					continue down
				}
				if err := r.end(pile[last].Name); err != nil {
					return api.Elem{}, err
				}
			}
			if last == 0 {
				return pile[0].Elem, nil
			}
			outer := &pile[last-1]
			outer.Kids, outer.Text = append(outer.Kids, pile[last].Elem), ""
			pile, ended = pile[:last], false
			r.skipBlanks()
		}
	}
}

// begin is the element that begins here, within those of a pile, with its text, and whether it ended already.
func (r *reader) begin(pile []open) (open, bool, error) {
	if err := r.mayBegin(pile); err != nil {
		return open{}, false, err
	}
	name, err := r.beginName()
	if err == nil {
		err = r.skipAttributes()
	}
	if err != nil {
		return open{}, false, err
	}
	e := open{Elem: api.Elem{Name: name}}
	if r.has("/") {
		return e, true, r.take("/>")
	}
	if err := r.take(">"); err != nil {
		return open{}, false, err
	}
	e.Text, e.hasText, err = r.plain()
	return e, false, err
}

// mayBegin tells why no element may begin here, within those of a pile, if one does; where none does, that is told at the byte that begins none.
func (r *reader) mayBegin(pile []open) error {
	depth := len(pile)
	if !r.has("<") || nameSize(r.text[r.at+1:], isInName) == 0 {
		return nil
	}
	if depth == api.MaxNest {
		return &api.Fault{Code: api.ErrDeep, At: r.at}
	}
	if depth > 0 && pile[depth-1].hasText {
		return r.wrong()
	}
	return nil
}

// beginName is the name of the element that begins here.
func (r *reader) beginName() (string, error) {
	if err := r.take("<"); err != nil {
		return "", err
	}
	return r.name(isInName)
}

// end reads over the end of an element of a name.
func (r *reader) end(name string) error {
	if err := r.take("</" + name); err != nil {
		return err
	}
	r.skipBlanks()
	return r.take(">")
}

// skipHead reads over a document's head, if there is one, and the blanks behind it.
func (r *reader) skipHead() error {
	if !r.has("<?") {
		return nil
	}
	if err := r.take("<?xml"); err != nil {
		return err
	}
	r.skipUntil("?")
	if err := r.take("?>"); err != nil {
		return err
	}
	r.skipBlanks()
	return nil
}

// skipAttributes reads over attributes, and the blanks behind them.
func (r *reader) skipAttributes() error {
	for {
		from := r.at
		r.skipBlanks()
		if r.at == from || r.has("/") || r.has(">") {
			return nil
		}
		if err := r.skipAttribute(); err != nil {
			return err
		}
	}
}

func (r *reader) skipAttribute() error {
	if _, err := r.name(isInAttributeName); err != nil {
		return err
	}
	if err := r.take("="); err != nil {
		return err
	}
	quote := `"`
	if r.has("'") {
		quote = "'"
	}
	if err := r.take(quote); err != nil {
		return err
	}
	r.skipUntil("<" + quote)
	return r.take(quote)
}

// name is the name that stands here; isIn tells its bytes behind the first one.
func (r *reader) name(isIn func(byte) bool) (string, error) {
	from := r.at
	size := nameSize(r.text[from:], isIn)
	r.at += min(size, maxName)
	if size == 0 || size > maxName {
		return "", r.wrong()
	}
	return strings.Clone(r.text[from:r.at]), nil
}

// wrong is what is told where the byte that stands here can't.
func (r *reader) wrong() error { return &api.Fault{Code: api.ErrXml, At: r.at} }

// has tells whether a text stands here.
func (r *reader) has(s string) bool { return strings.HasPrefix(r.text[r.at:], s) }

// take goes on behind a text, which must stand here.
func (r *reader) take(s string) error {
	for i := range len(s) {
		if !r.has(s[i : i+1]) {
			return r.wrong()
		}
		r.at++
	}
	return nil
}

func (r *reader) skipBlanks() {
	for r.at < len(r.text) && strings.IndexByte(blanks, r.text[r.at]) >= 0 {
		r.at++
	}
}

// skipUntil goes on to where one of some bytes stands, or to the end.
func (r *reader) skipUntil(some string) {
	for r.at < len(r.text) && strings.IndexByte(some, r.text[r.at]) < 0 {
		r.at++
	}
}
