package xml_test

import (
	"math/rand"
	"slices"
	"strings"
	"testing"

	"storehouse/api"
	"storehouse/samples"
	"storehouse/xml"
)

// P15.2: too long is told ahead of all else, at 0; 8000 bytes are not.
func TestParseLong(t *testing.T) {
	for _, c := range []struct {
		ahead, filler, behind string
		size                  int
		want                  answer
	}{
		{"<a>", "x", "</a>", 8000, answer{e: text("a", strings.Repeat("x", 7993))}},
		{"<a>", "x", "</a>", 8001, answer{code: api.ErrLong}},
		{"", " ", "<a/>", 8000, answer{e: elem("a")}},
		{"", " ", "<a/>", 8001, answer{code: api.ErrLong}},
		{"<a/>", " ", "", 8000, answer{e: elem("a")}},
		{"<a/>", " ", "", 8001, answer{code: api.ErrLong}},
		{"", " ", "", 8000, answer{code: api.ErrXml, at: 8000}},
		{"", " ", "", 8001, answer{code: api.ErrLong}},
		{"", "<", "", 8000, answer{code: api.ErrXml, at: 1}},
		{"", "<", "", 8001, answer{code: api.ErrLong}},
		{"", "\xff", "", 8001, answer{code: api.ErrLong}},
		{"", "<a>", "", 8001, answer{code: api.ErrLong}},
		{"", "<a>", "", 7998, answer{code: api.ErrDeep, at: 60}},
		{"<a x='", "y", "'/>", 8000, answer{e: elem("a")}},
		{"<?xml", "y", "?><a/>", 8000, answer{e: elem("a")}},
		{"<a", " ", "/>", 8000, answer{e: elem("a")}},
		{"<a></a", " ", ">", 8000, answer{e: elem("a")}},
	} {
		s := c.ahead + strings.Repeat(c.filler, (c.size-len(c.ahead)-len(c.behind))/len(c.filler)) + c.behind
		if len(s) != c.size {
			t.Fatal(len(s), c.size)
		}
		parses(t, s, c.want)
	}
	tells(t, "<a>"+strings.Repeat("<b/>", 1998)+"</a>", elem("a", slices.Repeat([]api.Elem{elem("b")}, 1998)...))
}

// P15.2: at most 20 elements are within one another; the 21st is told at its `<`, if it begins with a name.
func TestParseDeep(t *testing.T) {
	for _, opens := range []string{"<n>", "<n >", " <n a='1'>", "<n><m/>", "<n> <m>&#32;</m>\n"} {
		ahead := strings.Repeat(opens, 20)
		if strings.Contains(opens, "m") {
			ahead = strings.Repeat(opens, 19) + "<n>"
		}
		for _, deep := range []string{"<a", "<a>", "<_/>", "<a1 x='", "<a:b>", "<" + strings.Repeat("z", 101)} {
			parses(t, ahead+deep, answer{code: api.ErrDeep, at: len(ahead)})
			parses(t, ahead+" "+deep, answer{code: api.ErrDeep, at: len(ahead) + 1})
			parses(t, ahead+"x"+deep, answer{code: api.ErrDeep, at: len(ahead) + 1})
			parses(t, ahead+"&amp;"+deep, answer{code: api.ErrDeep, at: len(ahead) + 5})
		}
		refuses(t, ahead, len(ahead))
		refuses(t, ahead+"<", len(ahead)+1)
		refuses(t, ahead+"<1", len(ahead)+1)
		refuses(t, ahead+"<!--", len(ahead)+1)
		refuses(t, ahead+"</x", len(ahead)+2)
		refuses(t, ahead+"\x01<a", len(ahead))
	}
	for depth := 1; depth < 25; depth++ {
		whole := strings.Repeat("<n>", depth-1) + "<a/>" + strings.Repeat("</n>", depth-1)
		if depth <= 20 {
			tells(t, whole, nested(depth-1, elem("a")))
		} else {
			parses(t, whole, answer{code: api.ErrDeep, at: 60})
		}
	}
	side := strings.Repeat("<b><c></c></b>", 30)
	most := strings.Repeat("<n>", 18) + strings.Repeat("</n>", 18)
	model(t, "<a>"+side+most+"<d>"+most+"</d></a>")
	if e, err := xml.Parse("<a>" + side + most + "<d>" + most + "</d></a>"); err != nil || len(e.Kids) != 32 {
		t.Error(shown(e), err)
	}
	parses(t, "<a>"+side+most+"<d><d>"+most, answer{code: api.ErrDeep, at: len("<a>"+side+most+"<d><d>") + 17*3})
}

// P15.2: which bytes begin a name, and which go on with it, of elements and of attributes.
func TestParseNames(t *testing.T) {
	const letters, inner = "abcdefghijklmnopqrstuvwxyzABCDEFGHIJKLMNOPQRSTUVWXYZ_", "0123456789-."
	for c := range 256 {
		s := string([]byte{byte(c)})
		isFirst, isInner := strings.Contains(letters, s), strings.Contains(letters+inner, s)
		for _, all := range []string{"<~/>", "<~></~>", "<~ a='1'/>", "<a~/>", "<a~b></a~b>", "<a ~='1'/>", "<a a~='1'/>", "<a a~b='1'/>", "<a></a~>", "<a></a~b>", "<a a='1'~='2'/>"} {
			model(t, strings.ReplaceAll(all, "~", s))
		}
		switch {
		case isFirst:
			tells(t, "<"+s+"/>", elem(s))
			tells(t, "<a "+s+"='1'></a>", elem("a"))
		case s != "?":
			refuses(t, "<"+s+"/>", 1)
		}
		if isInner {
			tells(t, "<a"+s+"b></a"+s+"b>", elem("a"+s+"b"))
		}
		if isInner || s == ":" {
			tells(t, "<a b"+s+"='1'/>", elem("a"))
		} else if s != "=" {
			refuses(t, "<a b"+s+"='1'/>", 4)
		}
	}
	refuses(t, "<a:b/>", 2)
	refuses(t, "<a :b='1'/>", 3)
	refuses(t, "<é/>", 1)
	refuses(t, "<aé/>", 2)
	refuses(t, "<?/>", 2)
}

// P15.2: a name has at most 100 bytes; the 101st is told, also where it could not be one of a name.
func TestParseLongNames(t *testing.T) {
	for size := 98; size < 104; size++ {
		name := strings.Repeat("n", size)
		if size <= 100 {
			tells(t, "<"+name+"/>", elem(name))
			tells(t, "<"+name+"></"+name+" >", elem(name))
			tells(t, "<a "+name+"='1' "+name+"=''/>", elem("a"))
			refuses(t, "<"+name, 1+size)
			refuses(t, "<"+name+":", 1+size)
			refuses(t, "<"+name+"></"+name+"n>", 4+2*size)
			tells(t, "<a "+name[1:]+":='1'/>", elem("a"))
			continue
		}
		refuses(t, "<"+name+"/>", 101)
		refuses(t, "<"+name, 101)
		refuses(t, "<a><"+name+"></"+name+"></a>", 104)
		refuses(t, "<a "+name+"='1'/>", 103)
		refuses(t, "<a b='1'\n"+name+"='1'/>", 109)
		refuses(t, "<a "+name[:99]+"::='1'/>", 103)
	}
}

// P15.2: blanks are these four bytes, wherever blanks may be, and nowhere else.
func TestParseBlanks(t *testing.T) {
	may := []string{"~<a/>", "<a/>~", "~<?xml?><a/>", "<?xml?>~<a/>", "<a~/>", "<a~></a>", "<a></a~>", "<a>~<b/></a>", "<a><b/>~</a>", "<a><b/>~<c/></a>", "<a x='1'~/>", "<a x='1'~>~<b/></a>", "<a ~x='1'/>", "<a x=''~ y=''/>", "<?xml~?><a/>"}
	not := []string{"<~a/>", "<a/~>", "<a><~/a>", "<a></~a>", "<~?xml?><a/>", "<?~xml?><a/>", "<?x~ml?><a/>", "<?xml?~><a/>", "<a x~='1'/>", "<a x=~'1'/>", "<a>&~amp;</a>", "<a>&#~1;</a>"}
	for c := range 256 {
		b := string([]byte{byte(c)})
		for _, s := range slices.Concat(may, not) {
			model(t, strings.ReplaceAll(s, "~", b))
			model(t, strings.ReplaceAll(s, "~", b+b))
		}
		if !strings.Contains(" \t\n\r", b) {
			continue
		}
		for _, s := range may {
			tells(t, strings.ReplaceAll(s, "~", b+" "+b), parsed(strings.ReplaceAll(s, "~", "")).e)
		}
		for _, s := range not {
			refuses(t, strings.ReplaceAll(s, "~", b), parsed(strings.ReplaceAll(s, "~", b)).at)
		}
	}
	refuses(t, " \n", 2)
	refuses(t, "\ufeff<a/>", 0)
	refuses(t, "\u00a0<a/>", 0)
}

// P15.2: a document has one element, with a head ahead of it, perhaps.
func TestParseDocument(t *testing.T) {
	for _, s := range []string{`<?xml version="1.0" encoding="UTF-8"?>` + "\n<a/>", "<?xml?><a/>", " <?xml\xff\x00<>&!--?>\r<a/>\t", "<?xmlx?><a/>", "<a></a>", "<a ></a >"} {
		tells(t, s, elem("a"))
		tells(t, "\n"+s+"\n", elem("a"))
	}
	for s, at := range map[string]int{
		" ": 1, "x": 0, "x<a/>": 0, "<": 1, "</a>": 1, "<a": 2, "<a/": 3, "<a/x": 3, "<a/>y": 4, "<a/> y": 5, "<a/><": 4, "<a/><b/>": 4, "<a/></a>": 4, "<a></a></a>": 7, "<a/>&amp;": 4, "&amp;": 0,
		"<?": 2, "<?x": 3, "<?xm": 4, "<?xml": 5, "<?xml?": 6, "<?xml?>": 7, "<?xml?> ": 8, "<?xml ": 6, "<?xml>": 6, "<?xml??>": 6, "<?xml? ><a/>": 6, "<?xMl?><a/>": 3, "<?x ml?>": 3, "<?y?><a/>": 2, "<?xml?><?xml?><a/>": 8, "<a/><?xml?>": 4, "<a><?xml?></a>": 4, "<!a><a/>": 1, "<!DOCTYPE a><a/>": 1, "<!--x--><a/>": 1, "<?xml?>x<a/>": 7, "<?xml?></a>": 8,
		"<a><![CDATA[x]]></a>": 4, "<a/>\x00": 4, "\x00<a/>": 0,
	} {
		model(t, s)
		refuses(t, s, at)
	}
}

// P15.2: attributes are read over, whatever is in them but `<` and their quote.
func TestParseAttributes(t *testing.T) {
	for c := range 256 {
		s := string([]byte{byte(c)})
		model(t, "<a x='"+s+"'/>")
		model(t, `<a x="`+s+`y"/>`)
		if s != "<" && s != "'" && s != `"` {
			tells(t, "<a x='"+s+`' y="`+s+`">z</a>`, text("a", "z"))
		}
	}
	for _, s := range []string{`<a x=""/>`, `<a x='"'/>`, `<a x="'"/>`, `<a x="/>"/>`, `<a x="&q; &"/>`, `<a x='1' x='1'/>`, `<a x='1' a='1' y:z:='1'/>`, "<a\nx='1'\r\n\ty='2'></a>"} {
		tells(t, s, elem("a"))
	}
	for s, at := range map[string]int{
		"<a x": 4, "<a x=": 5, "<a x='": 6, "<a x='1": 7, "<a x='1'": 8, "<a x='1' ": 9, "<a x/>": 4, "<a x>": 4, "<a x=1/>": 5, "<a x=>": 5, "<a ='1'/>": 3, "<a x='<'/>": 6, `<a x="1<`: 7, `<a x='1"/>`: 10, "<a x='1'y='2'/>": 8, "<a'1'/>": 2, "<a='1'/>": 2, "<a x=''''/>": 7, "<a x='1'=/>": 8, "<a x='1' 2='1'/>": 9, "<a x='1'/ >": 9, "<a / >": 4, "<a /": 4, "<a //>": 4, "<a></a x='1'>": 7, "<a x=`1`/>": 5,
	} {
		model(t, s)
		refuses(t, s, at)
	}
}

// P15.2: an end has the name of its element, or is told at the first byte that is another one, or is too many.
func TestParseEnds(t *testing.T) {
	for s, at := range map[string]int{
		"<abc></abc": 10, "<abc></ab": 9, "<abc></": 7, "<abc><": 6, "<abc></ab>": 9, "<abc></abd>": 9, "<abc></xbc>": 7, "<abc></abcd>": 10, "<abc></ABC>": 7, "<abc></abc d>": 11, "<abc></abc ": 11, "<abc></abc/>": 10, "<abc></>": 7, "<abc></ abc>": 7,
		"<a><b></a></b>": 8, "<a><b></a>": 8, "<a></b></a>": 5, "<a><b/></b>": 9, "<a><b/></ab>": 10, "<ab><a></ab></ab>": 10, "<a>x</b>": 6, "<a></a/>": 6, "<a></a<": 6, "<a></a\x00>": 6,
	} {
		model(t, s)
		refuses(t, s, at)
	}
}

// P15.2: within an element stand a text, or elements with blanks around them; what is told by `&` is no blank there.
func TestParseWithin(t *testing.T) {
	for s, e := range map[string]api.Elem{
		"<a></a>": elem("a"), "<a> \t\r\n</a>": text("a", " \t\r\n"), "<a>&#32;</a>": text("a", " "), "<a> x </a>": text("a", " x "), "<a>]]>'\"/</a>": text("a", "]]>'\"/"),
		"<a><b/></a>": elem("a", elem("b")), "<a>\n <b/>\n <c> </c>\n</a>": elem("a", elem("b"), text("c", " ")), "<a><a><a/></a><a/></a>": elem("a", elem("a", elem("a")), elem("a")), "<a> <b> <c>&#9;</c> </b> </a>": elem("a", elem("b", text("c", "\t"))),
		"<a><b>1</b><b>2</b><a/><b/></a>": elem("a", text("b", "1"), text("b", "2"), elem("a"), elem("b")),
	} {
		model(t, s)
		tells(t, s, e)
	}
	for s, at := range map[string]int{
		"<a> x<b/></a>": 5, "<a>x <b/></a>": 5, "<a>&#32;<b/></a>": 8, "<a> &#10; <b/></a>": 10, "<a>x<b": 4, "<a>x<": 5, "<a>x<1/></a>": 5, "<a>x<!--y--></a>": 5, "<a>x<b></a>": 4, "<a>x<b:c/></a>": 4, "<a>x</a": 7,
		"<a><b/> x</a>": 8, "<a><b/>&#32;</a>": 7, "<a><b/> &#32;</a>": 8, "<a><b/>&": 7, "<a><b/>&q": 7, "<a><b/>&#x20": 7, "<a><b/>\xff": 7, "<a><b/>x<c/></a>": 7, "<a><b/> <c/>\u00a0</a>": 12, "<a><b/>": 7, "<a><b/> ": 8, "<a><b/> <": 9, "<a><b>x</b>y</a>": 11, "<a><b><c/>y</b></a>": 10, "<a><b/>\x00</a>": 7, "<a><b/>></a>": 7,
	} {
		model(t, s)
		refuses(t, s, at)
	}
}

// P15.2: all short texts of bytes that matter.
func TestParseEvery(t *testing.T) {
	for s := range samples.Every("<a/> >&", 6) {
		model(t, s)
	}
	for s := range samples.Every("<ab/>x ", 5) {
		model(t, "<a>"+s)
		model(t, "<a><b/>"+s+"</a>")
		model(t, "<a> "+s+"</a>")
	}
	for s := range samples.Every("a:='\"/ ><", 5) {
		model(t, "<a "+s)
	}
	for s := range samples.Every("<?xml> ", 5) {
		model(t, s+"<a/>")
		model(t, "<?xml"+s)
	}
}

// full is a text with something of all kinds.
const full = " <?xml v='1'?>\n<a_1 b:c=\"'\xff\" d='\"' >\t<B-.>x&amp;&#65;&#x1F600;é\r€😀 ></B-.\n> <c/><d e=''\t/><f> </f><g><h></h></g> </a_1 >\n"

// P15.2: of a text with all kinds in it, each prefix, and each text in which one byte is another, is missing, or is added.
func TestParseNearlyRight(t *testing.T) {
	if got := parsed(full); got.code != api.OK || len(got.e.Kids) != 5 || got.e.Kids[0].Text != "x&A😀é\r€😀 >" {
		t.Fatal(got)
	}
	for i := range len(full) + 1 {
		model(t, full[:i])
		if i < len(full) {
			model(t, full[:i]+full[i+1:])
		}
		for c := range 256 {
			model(t, full[:i]+string([]byte{byte(c)})+full[i:])
			if i < len(full) {
				model(t, full[:i]+string([]byte{byte(c)})+full[i+1:])
			}
		}
	}
}

// P15.2: a right text that ends too early is told at the length, in whatever it is cut off, but within a character.
func TestParseEnding(t *testing.T) {
	plain := strings.NewReplacer("é", "e", "€", "e", "😀", "e").Replace(full)
	last := strings.LastIndex(plain, ">") + 1
	for i := range last {
		refuses(t, plain[:i], i)
	}
	tells(t, plain[:last], parsed(plain).e)
}

// P15.2: any element, in any dress, is read; with any pieces of it changed, as the model says.
func TestParseAny(t *testing.T) {
	r := rand.New(rand.NewSource(151))
	pieces := []string{"", "<", ">", "/", "</", "/>", "&", ";", "&#", "&amp;", "=", "'", `"`, " ", "a", "1", ":", "\xf0", "\x80", "\x00", "<a>", "</a>", "<a/>", "?"}
	for range 20000 {
		e := anyElem(r, 4)
		s := gap(r) + dressed(r, e) + gap(r)
		if len(s) > 8000 {
			continue
		}
		tells(t, s, e)
		for range 3 {
			from := r.Intn(len(s) + 1)
			to := min(from+r.Intn(4), len(s))
			s = s[:from] + pieces[r.Intn(len(pieces))] + s[to:]
			model(t, s)
		}
	}
}
