package xml_test

import (
	"math/rand"
	"slices"
	"strings"
	"testing"

	"storehouse/api"
	"storehouse/samples"
	"storehouse/xml"
)

// P15.4: Parse of Write is the element, of all that is written in 8000 bytes.
func TestParseOfWrite(t *testing.T) {
	r := rand.New(rand.NewSource(154))
	all := different()
	for range 10000 {
		all = append(all, anyElem(r, 1+r.Intn(20)))
	}
	for _, s := range []string{" ", "x", "&", "\r", "\n", "é", "\U0010ffff"} {
		for size := 7900 / len(escaped(s)); size <= 8000; size += 17 {
			all = append(all, text("a", strings.Repeat(s, size)), elem("a", text(strings.Repeat("n", 100), strings.Repeat(s, size))))
		}
	}
	for many := 1970; many < 2010; many++ {
		all = append(all, elem("a", slices.Repeat([]api.Elem{elem("b")}, many)...))
	}
	back, long := 0, 0
	for _, e := range all {
		s, code := xml.Write(e)
		if code != api.OK || len(s) > 8000 {
			parses(t, written(e), answer{code: api.ErrLong})
			long++
			continue
		}
		back++
		got, err := xml.Parse(s)
		if err != nil || !xml.Same(got, e) || !alike(got, e) {
			t.Fatalf("%s, written %.200q: %s, %v", shown(e), s, shown(got), err)
		}
	}
	if back < 10000 || long < 20 {
		t.Error(back, "were read,", long, "were too long")
	}
}

// again asks of a text that is read whether what is written of it is read as the same, and written as the same.
func again(t *testing.T, s string) {
	t.Helper()
	e, err := xml.Parse(s)
	if err != nil {
		return
	}
	first, code := xml.Write(e)
	if code != api.OK || !xml.Same(e, e) {
		t.Fatalf("what is read of %q is not right: %s", s, shown(e))
	}
	if len(first) > 8000 {
		parses(t, first, answer{code: api.ErrLong})
		return
	}
	back, err := xml.Parse(first)
	second, code := xml.Write(back)
	if err != nil || code != api.OK || first != second || !xml.Same(e, back) {
		t.Fatalf("%q: %q, %v, %q, %d", s, first, err, second, code)
	}
}

// P15.4: Write of Parse, parsed and written again, is the same; what Parse tells is right.
func TestWriteOfParse(t *testing.T) {
	for s := range samples.Every("<a/> >", 7) {
		again(t, s)
	}
	for s := range samples.Every(" x&#;19\r>", 6) {
		again(t, "<a>"+s+"</a>")
	}
	r := rand.New(rand.NewSource(1542))
	for range 10000 {
		again(t, dressed(r, anyElem(r, 5)))
	}
	again(t, full)
	again(t, strings.Repeat("<a>", 20)+strings.Repeat("</a>", 20))
	again(t, "<a>"+strings.Repeat("<b/>", 1998)+"</a>")
	again(t, "<a>"+strings.Repeat(">", 7993)+"</a>")
}
