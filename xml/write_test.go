package xml_test

import (
	stdxml "encoding/xml"
	"math/rand"
	"slices"
	"strings"
	"testing"
	"unicode/utf8"

	"storehouse/api"
	"storehouse/xml"
)

const head = "<?xml version=\"1.0\" encoding=\"UTF-8\"?>\n"

// P15.1: elements with nothing, with a Text, with Kids, and within one another.
func TestWrite(t *testing.T) {
	for _, c := range []struct {
		e    api.Elem
		want string
	}{
		{elem("a"), "<a/>"},
		{api.Elem{Name: "_", Kids: []api.Elem{}}, "<_/>"},
		{text("a", "x"), "<a>x</a>"},
		{text("a", " "), "<a> </a>"},
		{text("a", "&<>\"\r'\n\t"), "<a>&amp;&lt;&gt;&quot;&#13;'\n\t</a>"},
		{text("a", "&amp;é€😀\x7f\u0085\u2028]]>"), "<a>&amp;amp;é€😀\x7f\u0085\u2028]]&gt;</a>"},
		{elem("a", elem("b")), "<a><b/></a>"},
		{elem("a-1._", text("b", "x"), elem("c"), text("b", "y")), "<a-1._><b>x</b><c/><b>y</b></a-1._>"},
		{elem("a", elem("a", elem("a", text("a", "\r")), elem("a"))), "<a><a><a><a>&#13;</a></a><a/></a></a>"},
	} {
		writes(t, c.e, head+c.want, api.OK)
		if got := written(c.e); got != head+c.want {
			t.Errorf("the model: %q, not %q", got, c.want)
		}
	}
}

// P15.1: each character of a Text that XML knows; what it does not know is refused.
func TestWriteEachCharacter(t *testing.T) {
	for c := range 0x110000 {
		if c%31 > 0 && 0x100 < c && c < 0x10fff0 && (c < 0xd7f0 || c > 0xe010) && (c < 0xffe0 || c > 0x10010) {
			continue
		}
		s := string(rune(c))
		switch {
		case knows(c):
			writes(t, text("a", s+"b"+s), head+"<a>"+escaped(s+"b"+s)+"</a>", api.OK)
		case utf8.ValidRune(rune(c)):
			writes(t, text("a", s), "", api.ErrXml)
			writes(t, elem("a", elem("b"), text("c", "é"+s)), "", api.ErrXml)
		}
	}
}

// P15.1: any elements.
func TestWriteAny(t *testing.T) {
	r := rand.New(rand.NewSource(1511))
	for range 20000 {
		e := anyElem(r, 6)
		writes(t, e, written(e), api.OK)
	}
}

// wrong are elements that are not right.
func wrong() []api.Elem {
	var all []api.Elem
	for _, name := range []string{"", "1", "-", ".", ":", " ", "a b", "a:b", "a>", "a/", "a\x00", "é", "aé", "\xff", " a", "a ", "a\n", "<a>", "?a", "1a", "-a", ".a", "a&", strings.Repeat("n", 101), strings.Repeat("n", 200), strings.Repeat("n", 100) + "!"} {
		all = append(all, elem(name), text(name, "x"), elem(name, elem("a")))
	}
	for _, s := range []string{"\x00", "\x08", "\x0b", "\x0c", "\x0e", "\x1f", "\ufffe", "\uffff", "\xff", "\xc3", "a\x80", "\xed\xa0\x80", "\xc0\x80", "\xf4\x90\x80\x80", "x\x00", strings.Repeat("x", 2000) + "\x01"} {
		all = append(all, text("a", s))
	}
	all = append(all, api.Elem{}, api.Elem{Name: "a", Text: "x", Kids: []api.Elem{elem("b")}}, api.Elem{Name: "a", Text: " ", Kids: []api.Elem{elem("b"), elem("c")}})
	for i := range 3 {
		for _, e := range slices.Clone(all[:100]) {
			all = append(all, nested(i+1, e), elem("a", elem("b"), e), elem("a", e, text("b", "x")))
		}
	}
	return append(all,
		nested(20, elem("a")), nested(21, elem("a")), nested(40, text("a", "x")), elem("a", elem("b"), nested(19, elem("a"))),
		elem("a", slices.Repeat([]api.Elem{elem("b")}, 20000)...), elem("a", elem("b", slices.Repeat([]api.Elem{elem("b")}, 19999)...)), elem("a", slices.Repeat([]api.Elem{elem("b", elem("c"))}, 10000)...),
	)
}

// P15.1: what is not right is refused, alone and within others; also such as hold themselves.
func TestWriteWrong(t *testing.T) {
	for _, e := range append(wrong(), endless(1), endless(2), endless(1000), twice(15), twice(19), twice(60)) {
		writes(t, e, "", api.ErrXml)
	}
}

// P15.1: which bytes a name may have, and how many.
func TestWriteNames(t *testing.T) {
	for c := range 256 {
		for _, name := range []string{string([]byte{byte(c)}), string([]byte{'a', byte(c)}), string([]byte{'a', byte(c), 'b'})} {
			for _, e := range []api.Elem{elem(name), elem("k", elem("k"), text(name, "x"))} {
				if isName.MatchString(name) && !strings.HasSuffix(name, "\n") {
					writes(t, e, written(e), api.OK)
				} else {
					writes(t, e, "", api.ErrXml)
				}
			}
		}
	}
	for size := 1; size <= 100; size++ {
		e := elem(strings.Repeat("_", size), elem(strings.Repeat("z", size)))
		writes(t, e, written(e), api.OK)
	}
}

// P15.1: 20 elements within one another are right, however many lie beside them; 20000 in all are.
func TestWriteMost(t *testing.T) {
	for depth := range 25 {
		e := nested(depth, text("a", "x"))
		if depth >= 20 {
			writes(t, e, "", api.ErrXml)
			continue
		}
		writes(t, e, written(e), api.OK)
		if depth < 19 {
			writes(t, elem("b", e, e, e), written(elem("b", e, e, e)), api.OK)
		}
	}
	for _, e := range []api.Elem{elem("a", slices.Repeat([]api.Elem{elem("b")}, 19999)...), elem("a", elem("b", slices.Repeat([]api.Elem{text("b", "&")}, 19998)...)), elem("a", append(slices.Repeat([]api.Elem{elem("b", elem("c"))}, 9999), elem("b"))...)} {
		writes(t, e, written(e), api.OK)
		e.Kids = append(e.Kids, elem("z"))
		writes(t, e, "", api.ErrXml)
	}
}

// P15.1: 1000000 bytes are not too long, 1000001 are; what is not right is told first.
func TestWriteLong(t *testing.T) {
	many := slices.Repeat([]api.Elem{elem("long-" + strings.Repeat("n", 80))}, 10000)
	for _, grown := range []func(n int) api.Elem{ // each byte more makes the text longer by one
		func(n int) api.Elem { return text("a", strings.Repeat("x", n)) },
		func(n int) api.Elem { return text("a", strings.Repeat("x", n%5)+strings.Repeat("&", n/5)) },
		func(n int) api.Elem { return text("a", strings.Repeat("\r", n/5)+strings.Repeat("x", n%5)) },
		func(n int) api.Elem { return text("a", strings.Repeat("<", n/4)+strings.Repeat("x", n%4)) },
		func(n int) api.Elem { return text("a", strings.Repeat("é", n/2)+strings.Repeat("x", n%2)) },
		func(n int) api.Elem { return elem("a", text("b", strings.Repeat("x", n)), elem("c")) },
		func(n int) api.Elem { return elem("a", elem("c"), text("b", strings.Repeat("x", n)), elem("c")) },
		func(n int) api.Elem {
			return elem("a", append(slices.Clone(many), text("b", strings.Repeat("x", n)))...)
		},
		func(n int) api.Elem {
			return elem("a", elem("b", text("b", strings.Repeat("x", n))), elem("c", many...))
		},
	} {
		const least = 1000
		most := least + 1000000 - len(written(grown(least)))
		if size := len(written(grown(most))); size != 1000000 {
			t.Fatal(size)
		}
		writes(t, grown(most), written(grown(most)), api.OK)
		writes(t, grown(most+1), "", api.ErrLong)
		writes(t, grown(most+1000000), "", api.ErrLong)
		writes(t, elem("w", grown(most+1), elem("")), "", api.ErrXml)
		writes(t, elem("w", grown(most+1), text("a", "\x00")), "", api.ErrXml)
	}
	writes(t, text("a", strings.Repeat("x", 2000000)+"\xff"), "", api.ErrXml)
	name := strings.Repeat("n", 100)
	writes(t, elem(name, slices.Repeat([]api.Elem{elem(name, elem(name))}, 9999)...), "", api.ErrLong)
	writes(t, elem(name, slices.Repeat([]api.Elem{text("a", strings.Repeat("x", 100000))}, 9999)...), "", api.ErrLong)
}

// P15.1: the library reads what is written as the same element, where it reads these characters as they are.
func TestWriteAsTheLibrary(t *testing.T) {
	r := rand.New(rand.NewSource(1512))
	for range 5000 {
		e := anyElem(r, 6)
		s, code := xml.Write(e)
		if got, err := byLibrary(s); code != api.OK || err != nil || !alike(got, e) {
			t.Fatalf("%s, written %q: %s, %v", shown(e), s, shown(got), err)
		}
	}
}

// byLibrary is the element that package xml reads.
func byLibrary(s string) (api.Elem, error) {
	decoder := stdxml.NewDecoder(strings.NewReader(s))
	pile := []api.Elem{{}}
	for {
		next, err := decoder.Token()
		last := len(pile) - 1
		switch token := next.(type) {
		case stdxml.StartElement:
			pile = append(pile, elem(token.Name.Local))
		case stdxml.EndElement:
			pile[last-1].Kids = append(pile[last-1].Kids, pile[last])
			pile = pile[:last]
		case stdxml.CharData:
			pile[last].Text += string(token)
		case nil:
			if len(pile) == 1 && len(pile[0].Kids) == 1 {
				return pile[0].Kids[0], nil
			}
			return api.Elem{}, err
		}
	}
}
