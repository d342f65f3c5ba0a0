package json_test

import (
	stdjson "encoding/json"
	"fmt"
	"math/rand"
	"regexp"
	"slices"
	"strings"
	"unicode/utf8"

	"storehouse/api"
)

// answer is all that Parse answers.
type answer struct {
	j  api.Json
	e  api.Errno
	at int
}

// What the model looks for. Of a number, as far as it is there, the longest one is taken.
var (
	blank       = regexp.MustCompile(`^[ \t\n\r]*`)
	number      = regexp.MustCompile(`^-?(0|[1-9][0-9]*)(\.[0-9]+)?([eE][+-]?[0-9]+)?$`)
	numberBegun = longest(`^-?((0|[1-9][0-9]*)(\.[0-9]*)?|(0|[1-9][0-9]*)(\.[0-9]+)?[eE][+-]?[0-9]*)?`)
	escaped     = regexp.MustCompile(`^(\\["\\/bfnrt]|\\u([0-9a-ce-fA-CE-F][0-9a-fA-F]{3}|[dD][0-7][0-9a-fA-F]{2}|[dD][89abAB][0-9a-fA-F]{2}\\u[dD][c-fC-F][0-9a-fA-F]{2}))`)
	escapeBegun = regexp.MustCompile(`^\\(u([0-9a-fA-F]{0,3}|[dD][89abAB][0-9a-fA-F]{2}(\\(u[0-9a-fA-F]{0,3})?)?)?)?$`)
)

func longest(pattern string) *regexp.Regexp {
	r := regexp.MustCompile(pattern)
	r.Longest()
	return r
}

// values are the bytes with which values begin.
const values = `[{"nft-0123456789`

// machine reads token by token: it has a pile of the lists and objects that are open, and the bytes that may begin the next token.
type machine struct {
	s    string
	at   int
	open []*api.Json
	may  string
	whole,
	failed answer
}

// parsed is what Parse is to answer.
func parsed(s string) answer {
	if len(s) > 8000 {
		return answer{e: api.ErrLong}
	}
	m := machine{s: s, may: values}
	for m.failed.e == api.OK {
		m.at += len(blank.FindString(s[m.at:]))
		if m.at == len(s) && m.may == "" {
			return m.whole
		}
		if m.at == len(s) || !strings.Contains(m.may, s[m.at:m.at+1]) {
			m.fail(api.ErrJson, m.at)
		} else {
			m.token()
		}
	}
	return m.failed
}

func (m *machine) fail(e api.Errno, at int) { m.failed = answer{e: e, at: at} }

// token goes on behind one.
func (m *machine) token() {
	rest := m.s[m.at:]
	switch rest[0] {
	case 'n':
		m.word("null", api.JNull)
	case 'f':
		m.word("false", api.JFalse)
	case 't':
		m.word("true", api.JTrue)
	case '"':
		m.text()
	case '[':
		m.push(api.JList, values+"]")
	case '{':
		m.push(api.JObject, `"}`)
	case ']', '}':
		last := m.open[len(m.open)-1]
		m.open = m.open[:len(m.open)-1]
		m.at++
		m.put(*last)
	case ',':
		m.at++
		m.may = values
		if m.open[len(m.open)-1].Kind == api.JObject {
			m.may = `"`
		}
	case ':':
		m.at++
		m.may = values
	default:
		found := numberBegun.FindString(rest)
		m.at += len(found)
		if !number.MatchString(found) {
			m.fail(api.ErrJson, m.at)
			return
		}
		m.put(api.Json{Kind: api.JNumber, Text: found})
	}
}

func (m *machine) push(kind int, may string) {
	if len(m.open) == 20 {
		m.fail(api.ErrDeep, m.at)
		return
	}
	m.open = append(m.open, &api.Json{Kind: kind})
	m.at++
	m.may = may
}

// put puts a value where it belongs.
func (m *machine) put(j api.Json) {
	if len(m.open) == 0 {
		m.whole.j, m.may = j, ""
		return
	}
	last := m.open[len(m.open)-1]
	last.Kids = append(last.Kids, j)
	m.may = ",]"
	if last.Kind == api.JObject {
		m.may = ",}"
	}
}

func (m *machine) word(word string, kind int) {
	for i := range len(word) {
		if !strings.HasPrefix(m.s[m.at:], word[:i+1]) {
			m.fail(api.ErrJson, m.at+i)
			return
		}
	}
	m.at += len(word)
	m.put(api.Json{Kind: kind})
}

// text finds where a text ends, or what is wrong in it; package json tells what it is.
func (m *machine) text() {
	end := m.at + 1
	for end < len(m.s) && m.s[end] != '"' {
		rest := m.s[end:]
		_, size := utf8.DecodeRuneInString(rest)
		switch {
		case escaped.MatchString(rest):
			end += len(escaped.FindString(rest))
		case escapeBegun.MatchString(rest):
			end = len(m.s)
		case rest[0] == '\\' || rest[0] < 32 || !utf8.ValidString(rest[:size]):
			m.fail(api.ErrJson, end)
			return
		default:
			end += size
		}
	}
	if end == len(m.s) {
		m.fail(api.ErrJson, end)
		return
	}
	var text string
	if err := stdjson.Unmarshal([]byte(m.s[m.at:end+1]), &text); err != nil {
		panic(err)
	}
	m.at = end + 1
	if len(m.open) > 0 {
		if last := m.open[len(m.open)-1]; len(last.Names) == len(last.Kids) && last.Kind == api.JObject {
			last.Names = append(last.Names, text)
			m.may = ":"
			return
		}
	}
	m.put(api.Json{Kind: api.JText, Text: text})
}

// written is the text of a right value.
func written(j api.Json) string {
	var inner []string
	for i, kid := range j.Kids {
		if j.Kind == api.JObject {
			inner = append(inner, quoted(j.Names[i])+":"+written(kid))
		} else {
			inner = append(inner, written(kid))
		}
	}
	return map[int]string{
		api.JNull: "null", api.JFalse: "false", api.JTrue: "true", api.JNumber: j.Text, api.JText: quoted(j.Text),
		api.JList: "[" + strings.Join(inner, ",") + "]", api.JObject: "{" + strings.Join(inner, ",") + "}",
	}[j.Kind]
}

func quoted(s string) string {
	pairs := []string{`"`, `\"`, `\`, `\\`, "\n", `\n`, "\r", `\r`, "\t", `\t`}
	for c := range 32 {
		pairs = append(pairs, string(rune(c)), fmt.Sprintf(`\u%04x`, c))
	}
	return `"` + strings.NewReplacer(pairs...).Replace(s) + `"`
}

func num(text string) api.Json { return api.Json{Kind: api.JNumber, Text: text} }

func text(s string) api.Json { return api.Json{Kind: api.JText, Text: s} }

func list(kids ...api.Json) api.Json { return api.Json{Kind: api.JList, Kids: kids} }

// object is one whose names these are, each followed by its kid.
func object(all ...any) api.Json {
	j := api.Json{Kind: api.JObject}
	for i := 0; i < len(all); i += 2 {
		j.Names = append(j.Names, all[i].(string))
		j.Kids = append(j.Kids, all[i+1].(api.Json))
	}
	return j
}

// nested is a value within so many lists and objects, by turns.
func nested(depth int, j api.Json) api.Json {
	for i := range depth {
		if i%2 == 0 {
			j = list(j)
		} else {
			j = object("n", j)
		}
	}
	return j
}

// copied is a value with nothing of the first one's.
func copied(j api.Json) api.Json {
	made := api.Json{Kind: j.Kind, Text: strings.Clone(j.Text), Names: append([]string{}, j.Names...)}
	for _, kid := range j.Kids {
		made.Kids = append(made.Kids, copied(kid))
	}
	return made
}

// alike tells whether two values are the same, right or not.
func alike(a, b api.Json) bool {
	return a.Kind == b.Kind && a.Text == b.Text && slices.Equal(a.Names, b.Names) && slices.EqualFunc(a.Kids, b.Kids, alike)
}

// told is a value for messages, right or not, cut off where it is long or deep.
func told(j api.Json) string { return toldTo(j, 25) }

func toldTo(j api.Json, depth int) string {
	s := fmt.Sprintf("%d %q %q", j.Kind, j.Text, j.Names)
	for _, kid := range j.Kids {
		if len(s) > 300 || depth == 0 {
			return s + " ..."
		}
		s += " {" + toldTo(kid, depth-1) + "}"
	}
	return s
}

// anyChars is a text of some characters, many of which are written in another way than they are.
func anyChars(r *rand.Rand, most int) string {
	chars := []rune("\"\\/\b\f\n\r\t\x00\x1f\x7f a[]{},:\u0080\u07ff\u0800\ud7ff\ue000\ufffd\uffff\U00010000\U0010ffff")
	s := ""
	for range r.Intn(most + 1) {
		s += string(chars[r.Intn(len(chars))])
	}
	return s
}

// anyValue is a right value, at most so deep.
func anyValue(r *rand.Rand, depth int) api.Json {
	kind := 1 + r.Intn(7)
	if depth == 0 {
		kind = 1 + r.Intn(5)
	}
	j := api.Json{Kind: kind}
	switch kind {
	case api.JNumber:
		all := []string{"0", "-0", "1", "-10", "0.0", "1.50", "1e5", "1E+05", "-0.1e-00", "12345678901234567890", "1e999"}
		j.Text = all[r.Intn(len(all))]
	case api.JText:
		j.Text = anyChars(r, 6)
	case api.JList, api.JObject:
		for range r.Intn(4) {
			j.Kids = append(j.Kids, anyValue(r, depth-1))
			if kind == api.JObject {
				j.Names = append(j.Names, anyChars(r, 2))
			}
		}
	}
	return j
}

// spaced is a right value's text with blanks, and with its characters in escapes here and there.
func spaced(r *rand.Rand, j api.Json) string {
	gap := func() string { return strings.Repeat(" \t\n\r", 2)[r.Intn(8):][:r.Intn(3)%2] }
	inner := gap()
	for i, kid := range j.Kids {
		if i > 0 {
			inner += "," + gap()
		}
		if j.Kind == api.JObject {
			inner += coded(r, j.Names[i]) + gap() + ":" + gap()
		}
		inner += spaced(r, kid) + gap()
	}
	switch j.Kind {
	case api.JText:
		return coded(r, j.Text)
	case api.JList:
		return "[" + inner + "]"
	case api.JObject:
		return "{" + inner + "}"
	}
	return written(j)
}

// coded is a text in quotes; any of its characters may be an escape, in small sixteenths or in capitals.
func coded(r *rand.Rand, s string) string {
	all := ""
	for _, c := range s {
		plain := quoted(string(c))
		switch r.Intn(3) {
		case 0:
			plain = `"` + unit(r, c) + `"`
		case 1:
			if at := strings.IndexRune("\b\f/", c); at >= 0 {
				plain = `"\` + `bf/`[at:at+1] + `"`
			}
		}
		all += plain[1 : len(plain)-1]
	}
	return `"` + all + `"`
}

// unit is the escape, or the two, that tell a character.
func unit(r *rand.Rand, c rune) string {
	format := `\u%04x`
	if r.Intn(2) == 0 {
		format = `\u%04X`
	}
	if c < 0x10000 {
		return fmt.Sprintf(format, c)
	}
	return fmt.Sprintf(format+format, 0xd800+(c-0x10000)>>10, 0xdc00+(c-0x10000)&0x3ff)
}
