package xml_test

import (
	"fmt"
	"math/rand"
	"regexp"
	"regexp/syntax"
	"slices"
	"strconv"
	"strings"
	"unicode/utf8"

	"storehouse/api"
)

// answer is all that Parse answers.
type answer struct {
	e    api.Elem
	code api.Errno
	at   int
}

// token is what is read as one: the pattern of it, and that of all with which one begins.
type token struct{ whole, begun *regexp.Regexp }

// What the model looks for.
var (
	blank     = regexp.MustCompile(`^[ \t\n\r]*`)
	headOf    = tokenOf(`<\?xml[^?]*\?>`)
	beginOf   = tokenOf(`<([A-Za-z_][A-Za-z0-9_.-]{0,99})([ \t\n\r]+[A-Za-z_][A-Za-z0-9_.:-]{0,99}=("[^"<]*"|'[^'<]*'))*[ \t\n\r]*(/?)>`)
	formOf    = tokenOf(`&(amp|lt|gt|quot|apos|#[0-9]{1,7}|#x[0-9a-fA-F]{1,6});`)
	nameBegun = regexp.MustCompile(`^<[A-Za-z_]`)
	known     = regexp.MustCompile(`^[\t\n\r\x{20}-\x{D7FF}\x{E000}-\x{FFFD}\x{10000}-\x{10FFFF}]$`)
	isName    = regexp.MustCompile(`^[A-Za-z_][A-Za-z0-9_.-]{0,99}$`)
)

func tokenOf(pattern string) token {
	tree, err := syntax.Parse(pattern, syntax.Perl)
	if err != nil {
		panic(err)
	}
	t := token{regexp.MustCompile("^(?:" + pattern + ")"), regexp.MustCompile("^(?:" + begun(tree) + ")")}
	t.begun.Longest()
	return t
}

// begun is the pattern of all texts with which one of a pattern begins.
func begun(tree *syntax.Regexp) string {
	sub := tree.Sub
	switch tree.Op {
	case syntax.OpLiteral:
		s := ""
		for _, c := range slices.Backward(tree.Rune) {
			s = "(?:" + regexp.QuoteMeta(string(c)) + s + ")?"
		}
		return s
	case syntax.OpCharClass:
		return tree.String() + "?"
	case syntax.OpCapture, syntax.OpQuest:
		return "(?:" + begun(sub[0]) + ")"
	case syntax.OpStar, syntax.OpPlus:
		return "(?:(?:" + sub[0].String() + ")*" + begun(sub[0]) + ")"
	case syntax.OpRepeat:
		return fmt.Sprintf("(?:(?:%s){0,%d}%s)", sub[0], tree.Max-1, begun(sub[0]))
	case syntax.OpConcat, syntax.OpAlternate:
		s := begun(sub[len(sub)-1])
		for _, part := range slices.Backward(sub[:len(sub)-1]) {
			if tree.Op == syntax.OpConcat {
				s = "(?:" + part.String() + ")" + s
			}
			s = "(?:" + begun(part) + "|" + s + ")"
		}
		return s
	}
	panic(tree.Op)
}

// find is the token with which a text begins, and its groups; else nothing, and how many bytes go on with one.
func (t token) find(s string) ([]string, int) {
	if found := t.whole.FindStringSubmatch(s); found != nil {
		return found, len(found[0])
	}
	return nil, len(t.begun.FindString(s))
}

// machine reads token by token. Its pile has the elements that are open; what has ended goes to the one below it, and the last to whole.
type machine struct {
	s       string
	at      int
	pile    []*api.Elem
	texts   []bool // of those in the pile: is the Text more than blanks?
	whole   *api.Elem
	refused answer
}

// parsed is what Parse is to answer.
func parsed(s string) answer {
	if len(s) > 8000 {
		return answer{code: api.ErrLong}
	}
	m := machine{s: s}
	m.skip()
	if strings.HasPrefix(m.s[m.at:], "<?") {
		m.token(headOf)
		m.skip()
	}
	for m.refused.code == api.OK {
		if m.whole != nil {
			m.skip()
			if m.at == len(s) {
				return answer{e: *m.whole}
			}
			m.fail(api.ErrXml, m.at)
			break
		}
		m.step()
	}
	return m.refused
}

func (m *machine) fail(code api.Errno, at int) { m.refused = answer{code: code, at: at} }

func (m *machine) skip() { m.at += len(blank.FindString(m.s[m.at:])) }

// token goes on behind one, which must stand here.
func (m *machine) token(t token) []string {
	found, size := t.find(m.s[m.at:])
	if m.at += size; found == nil {
		m.fail(api.ErrXml, m.at)
	}
	return found
}

func (m *machine) step() {
	last := len(m.pile) - 1
	if last < 0 || len(m.pile[last].Kids) > 0 {
		m.skip()
	}
	rest := m.s[m.at:]
	switch {
	case last >= 0 && strings.HasPrefix(rest, "</"):
		m.end(m.pile[last].Name)
	case last == 19 && nameBegun.MatchString(rest):
		m.fail(api.ErrDeep, m.at)
	case last >= 0 && m.texts[last] && nameBegun.MatchString(rest):
		m.fail(api.ErrXml, m.at)
	case strings.HasPrefix(rest, "<"):
		m.begin()
	case rest == "" || last < 0 || len(m.pile[last].Kids) > 0:
		m.fail(api.ErrXml, m.at)
	default:
		m.character(m.pile[last], &m.texts[last])
	}
}

func (m *machine) begin() {
	found := m.token(beginOf)
	if found == nil {
		return
	}
	if last := len(m.pile) - 1; last >= 0 {
		m.pile[last].Text = ""
	}
	m.pile, m.texts = append(m.pile, &api.Elem{Name: found[1]}), append(m.texts, false)
	if found[4] == "/" {
		m.up()
	}
}

func (m *machine) end(name string) {
	want := "</" + name
	for i := range len(want) {
		if m.at == len(m.s) || m.s[m.at] != want[i] {
			m.fail(api.ErrXml, m.at)
			return
		}
		m.at++
	}
	m.skip()
	if m.at == len(m.s) || m.s[m.at] != '>' {
		m.fail(api.ErrXml, m.at)
		return
	}
	m.at++
	m.up()
}

// up puts the last of the pile where it belongs.
func (m *machine) up() {
	last := len(m.pile) - 1
	if last == 0 {
		m.whole = m.pile[0]
		return
	}
	outer := m.pile[last-1]
	outer.Kids = append(outer.Kids, *m.pile[last])
	m.pile, m.texts = m.pile[:last], m.texts[:last]
}

// character reads one, as itself or told by `&`.
func (m *machine) character(e *api.Elem, isText *bool) {
	rest := m.s[m.at:]
	if rest[0] == '&' {
		found, size := formOf.find(rest)
		c := told(found)
		switch {
		case found == nil && size == len(rest):
			m.fail(api.ErrXml, len(m.s))
		case found == nil || !known.MatchString(c):
			m.fail(api.ErrXml, m.at)
		default:
			m.at += size
			e.Text += c
			*isText = true
		}
		return
	}
	_, size := utf8.DecodeRuneInString(rest)
	if c := rest[:size]; !utf8.ValidString(c) || !known.MatchString(c) {
		m.fail(api.ErrXml, m.at)
		return
	}
	m.at += size
	e.Text += rest[:size]
	*isText = *isText || blank.FindString(rest) == ""
}

// told is the character of a form; of a number that is none something that XML does not know.
func told(form []string) string {
	if form == nil {
		return ""
	}
	if c, ok := map[string]string{"amp": "&", "lt": "<", "gt": ">", "quot": `"`, "apos": "'"}[form[1]]; ok {
		return c
	}
	n, err := strconv.ParseInt("0"+form[1][1:], 0, 32)
	if form[1][1] != 'x' {
		n, err = strconv.ParseInt(form[1][1:], 10, 32)
	}
	if err != nil || !utf8.ValidRune(rune(n)) {
		return "\x00"
	}
	return string(rune(n))
}

// written is the text of a right element.
func written(e api.Elem) string {
	var all strings.Builder
	all.WriteString("<?xml version=\"1.0\" encoding=\"UTF-8\"?>\n")
	write(&all, e)
	return all.String()
}

func write(all *strings.Builder, e api.Elem) {
	if e.Text == "" && len(e.Kids) == 0 {
		all.WriteString("<" + e.Name + "/>")
		return
	}
	all.WriteString("<" + e.Name + ">" + escaped(e.Text))
	for _, kid := range e.Kids {
		write(all, kid)
	}
	all.WriteString("</" + e.Name + ">")
}

func escaped(s string) string {
	return strings.NewReplacer("&", "&amp;", "<", "&lt;", ">", "&gt;", `"`, "&quot;", "\r", "&#13;").Replace(s)
}

func elem(name string, kids ...api.Elem) api.Elem { return api.Elem{Name: name, Kids: kids} }

func text(name, s string) api.Elem { return api.Elem{Name: name, Text: s} }

// nested is an element within so many others.
func nested(depth int, e api.Elem) api.Elem {
	for range depth {
		e = elem("n", e)
	}
	return e
}

// endless is an element whose Kids, so many, are all itself.
func endless(many int) api.Elem {
	e := elem("e", make([]api.Elem, many)...)
	for i := range e.Kids {
		e.Kids[i] = e
	}
	return e
}

// twice is an element that holds one twice, which holds one twice, and so on.
func twice(depth int) api.Elem {
	e := elem("t")
	for range depth {
		e = elem("t", e, e)
	}
	return e
}

// copied is an element with nothing of the first one's.
func copied(e api.Elem) api.Elem {
	made := api.Elem{Name: strings.Clone(e.Name), Text: strings.Clone(e.Text)}
	for _, kid := range e.Kids {
		made.Kids = append(made.Kids, copied(kid))
	}
	return made
}

// alike tells whether two elements are the same, right or not.
func alike(a, b api.Elem) bool {
	return a.Name == b.Name && a.Text == b.Text && slices.EqualFunc(a.Kids, b.Kids, alike)
}

// shown is an element for messages, right or not, cut off where it is long or deep.
func shown(e api.Elem) string { return shownTo(e, 25) }

func shownTo(e api.Elem, depth int) string {
	s := fmt.Sprintf("%.150q %.150q", e.Name, e.Text)
	for _, kid := range e.Kids {
		if len(s) > 300 || depth == 0 {
			return s + " ..."
		}
		s += " {" + shownTo(kid, depth-1) + "}"
	}
	return s
}

// chars are some characters that XML knows: the first and the last of each row of them, and those that are written in another way than they are.
const chars = "&<>\"'\r\n\t a;#x/=?\x7f\u0080\u07ff\u0800\ud7ff\ue000\ufffd\U00010000\U0010ffff"

// anyText is a text of such.
func anyText(r *rand.Rand) string {
	all, s := []rune(chars), ""
	for range r.Intn(5) {
		s += string(all[r.Intn(len(all))])
	}
	return s
}

func anyName(r *rand.Rand) string {
	const inner = "abzABZ_019-."
	s := inner[r.Intn(7):][:1]
	for range r.Intn(4) {
		s += inner[r.Intn(len(inner)):][:1]
	}
	return s
}

// anyElem is a right element, at most so deep.
func anyElem(r *rand.Rand, depth int) api.Elem {
	e := api.Elem{Name: anyName(r)}
	if depth == 1 || r.Intn(2) == 0 {
		e.Text = anyText(r)
		return e
	}
	for range r.Intn(4) {
		e.Kids = append(e.Kids, anyElem(r, depth-1))
	}
	return e
}

// gap is a few blanks, or none.
func gap(r *rand.Rand) string { return " \t\n\r \n"[r.Intn(5):][:r.Intn(3)%2] }

// dressed is a right element's text with blanks, attributes, and its characters in forms here and there.
func dressed(r *rand.Rand, e api.Elem) string {
	s := "<" + e.Name
	for range r.Intn(3) {
		s += " " + gap(r) + []string{"a=''", `b-1.:="&x>'/"`, `x:y='"?!'`, "_=\"\xff\n\x00\""}[r.Intn(4)]
	}
	s += gap(r)
	if e.Text == "" && len(e.Kids) == 0 && r.Intn(2) == 0 {
		return s + "/>"
	}
	s += ">"
	for _, kid := range e.Kids {
		s += gap(r) + dressed(r, kid)
	}
	if len(e.Kids) > 0 {
		s += gap(r)
	}
	for _, c := range e.Text {
		s += form(r, c)
	}
	return s + "</" + e.Name + gap(r) + ">"
}

// form is one way to tell a character.
func form(r *rand.Rand, c rune) string {
	plain := string(c)
	switch r.Intn(4) {
	case 0:
		return fmt.Sprintf("&#%s;", strings.Repeat("0", r.Intn(8-len(strconv.Itoa(int(c)))))+strconv.Itoa(int(c)))
	case 1:
		return fmt.Sprintf("&#x%0*x;", 1+r.Intn(6), c)
	case 2:
		return fmt.Sprintf("&#x%0*X;", 1+r.Intn(6), c)
	}
	if c == '\'' && r.Intn(2) == 0 {
		return "&apos;"
	}
	if c == '&' || c == '<' || (c == '>' || c == '"' || c == '\r') && r.Intn(2) == 0 {
		return escaped(plain)
	}
	return plain
}
