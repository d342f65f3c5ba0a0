package xml_test

import (
	"errors"
	"fmt"
	"math/rand"
	"strings"
	"sync"
	"testing"
	"unsafe"

	"storehouse/api"
	"storehouse/samples"
	"storehouse/xml"
)

// all is what all calls of the layer answer of a text.
func all(s string) string {
	e, err := xml.Parse(s)
	first, code := xml.Write(e)
	second, code2 := xml.Write(api.Elem{Name: s, Text: s})
	outer := elem("o", e, text(s, s), e)
	found := xml.Find(outer, e.Name)
	said, ok := xml.Text(outer, s)
	return fmt.Sprint(e, err, first, code, second, code2, found, said, ok, xml.Same(e, e))
}

// P1: every call ends, and none panics, at any text.
func TestAnyText(t *testing.T) {
	r := rand.New(rand.NewSource(1))
	for s := range samples.Every("<a/>&\xff", 5) {
		all(s)
	}
	for range 20000 {
		s := make([]byte, r.Intn(60))
		for i := range s {
			s[i] = byte(r.Intn(256))
			if r.Intn(3) > 0 {
				s[i] = `<<>>//aab="'&#x;1 ?:`[r.Intn(20)]
			}
		}
		all(string(s))
		all("<a>" + string(s) + "</a>")
	}
	for _, s := range []string{"<", "<a>", "<a ", "<a a='", "</", "&", "&#", "&#1", "&#x", "<?xml", "<?", "?", "=", "'", "\x00", "\xff", " ", "a", "<a/>", "<a></a>"} {
		all(strings.Repeat(s, 8000/len(s)))
		all(strings.Repeat(s, 100000))
		all("<a>" + strings.Repeat(s, 7990/len(s)))
	}
}

// P1: every call ends, and none panics, at any element.
func TestAnyElem(t *testing.T) {
	r := rand.New(rand.NewSource(11))
	texts := []string{"", "a", "a", "1", "b", "\xff", " "}
	var any func(depth int) api.Elem
	any = func(depth int) api.Elem {
		e := api.Elem{Name: texts[r.Intn(len(texts))], Text: texts[r.Intn(len(texts))*r.Intn(2)]}
		for range r.Intn(4) * min(depth, 1) {
			e.Kids = append(e.Kids, any(depth-1))
		}
		return e
	}
	for range 20000 {
		a, b := any(3), any(3)
		s, code := xml.Write(a)
		if (code == api.OK) != (s != "") || code != api.OK && code != api.ErrXml || (code == api.OK) != xml.Same(a, a) {
			t.Fatal(s, code)
		}
		xml.Same(a, b)
		for _, name := range texts {
			xml.Find(a, name)
			xml.Text(b, name)
		}
	}
}

// P2: with an error there is nothing else; without one the error is nil itself; each error is new.
func TestErrors(t *testing.T) {
	for s := range samples.Every("<a/> >x&", 6) {
		e, err := xml.Parse("<a>" + s + "</a>")
		got := answerOf(t, e, err)
		if got.code != api.OK && (!alike(e, api.Elem{}) || e.Kids != nil) || got.code == api.OK && e.Name != "a" || got.at > len(s)+7 {
			t.Fatalf("%q: %v", s, got)
		}
	}
	_, first := xml.Parse("<a>x")
	_, second := xml.Parse("<a>x")
	if first == second {
		t.Error("one fault was given out twice")
	}
	var fault *api.Fault
	if !errors.As(first, &fault) || *fault != (api.Fault{Code: api.ErrXml, At: 4}) || !errors.Is(first, api.ErrXml) || errors.Is(first, api.ErrDeep) {
		t.Error(first)
	}
	fault.At = 9
	if _, err := xml.Parse("<a>x"); err.Error() != second.Error() {
		t.Error(err)
	}
	if _, err := xml.Parse("<a/>"); err != nil {
		t.Error(err)
	}
}

// P3: nothing that is handed in is written into, nor what stands behind it.
func TestNothingIsWritten(t *testing.T) {
	for _, e := range append(different(), wrong()...) {
		e.Kids = append(append(make([]api.Elem, 0, len(e.Kids)+9), e.Kids...), elem("behind"))[:len(e.Kids)]
		before := copied(e)
		xml.Write(e)
		xml.Same(e, e)
		xml.Find(e, "b")
		xml.Text(e, "b")
		if !alike(e, before) || !alike(e.Kids[:len(e.Kids)+1][len(e.Kids)], elem("behind")) {
			t.Errorf("%s became %s", shown(before), shown(e))
		}
	}
	bytes := []byte(full + "behind")
	xml.Parse(unsafe.String(unsafe.SliceData(bytes), len(full)))
	if string(bytes) != full+"behind" {
		t.Errorf("the text became %q", bytes)
	}
}

// P3: nothing that is handed in is kept: answers stay, though it changes.
func TestNothingIsKept(t *testing.T) {
	bytes := []byte(full)
	e, err := xml.Parse(unsafe.String(unsafe.SliceData(bytes), len(bytes)))
	clear(bytes)
	if want := parsed(full); err != nil || !alike(e, want.e) {
		t.Errorf("%s, %v", shown(e), err)
	}
	name := []byte("b")
	same := unsafe.String(unsafe.SliceData(name), 1)
	outer := elem("a", elem(same, text(same, same), elem("c", text(same, "x"))), text("d", same))
	found := xml.Find(outer, "b")
	said, ok := xml.Text(outer, "d")
	s, code := xml.Write(outer)
	clear(name)
	spoil(&outer)
	if len(found) != 1 || !alike(found[0], elem("b", text("b", "b"), elem("c", text("b", "x")))) || said != "b" || !ok {
		t.Error(shown(elem("", found...)), said, ok)
	}
	if want := head + "<a><b><b>b</b><c><b>x</b></c></b><d>b</d></a>"; s != want || code != api.OK {
		t.Error(s, code)
	}
}

// spoil writes over all lists of an element, and the room behind them.
func spoil(e *api.Elem) {
	for i := range e.Kids {
		spoil(&e.Kids[i])
	}
	kids := e.Kids[:cap(e.Kids)]
	for i := range kids {
		kids[i] = text("spoilt", "spoilt")
	}
}

// P3: no two lists of one answer share memory, spare room too, nor do lists of two answers.
func TestAnswersAreNew(t *testing.T) {
	s := "<k><k><a/><b>1</b></k><k/><k><k><k><c/></k><d/><e/></k></k><k><a/><a/><a/></k><k><k/><k/><k/><k/><k/></k></k>"
	outer := parsed(s).e
	answers := map[string]func() []api.Elem{
		"Parse": func() []api.Elem { e, _ := xml.Parse(s); return []api.Elem{e} },
		"kids":  func() []api.Elem { e, _ := xml.Parse(s); return e.Kids },
		"Find":  func() []api.Elem { return xml.Find(outer, "k") },
	}
	for name, call := range answers {
		want := map[bool][]api.Elem{true: {outer}, false: outer.Kids}[name == "Parse"]
		for i := range want {
			first, second := call(), call()
			spoil(&first[i])
			if !alike(elem("", first[:i]...), elem("", want[:i]...)) || !alike(elem("", first[i+1:]...), elem("", want[i+1:]...)) {
				t.Errorf("%s: the lists of one answer share memory: %s", name, shown(elem("", first...)))
			}
			all := elem("", first...)
			spoil(&all)
			if !alike(elem("", second...), elem("", want...)) || !alike(outer, parsed(s).e) {
				t.Errorf("%s: the lists of two answers share memory: %s", name, shown(elem("", second...)))
			}
		}
	}
	same := elem("k", elem("a"), elem("b"))
	found := xml.Find(elem("a", same, same), "k")
	spoil(&found[0])
	if !alike(found[1], elem("k", elem("a"), elem("b"))) || !alike(same, found[1]) {
		t.Errorf("a list that was handed in twice is one in the answer: %s", shown(found[1]))
	}
}

// P4: the same arguments, the same answers, whatever was asked ahead, and whatever goes on beside.
func TestNothingElseCounts(t *testing.T) {
	r := rand.New(rand.NewSource(4))
	texts := []string{"", "<", "<a>x<b/>", "<a>&#", full, full[:40], strings.Repeat("<a>", 21)}
	for range 300 {
		texts = append(texts, dressed(r, anyElem(r, 4)))
	}
	var want []string
	for _, s := range texts {
		want = append(want, all(s))
	}
	var done sync.WaitGroup
	for from := range 8 {
		done.Go(func() {
			for n := range texts {
				i := (n*7 + from) % len(texts)
				if all(texts[i]) != want[i] {
					t.Errorf("another answer of %q", texts[i])
				}
			}
		})
	}
	done.Wait()
}

// P5: of what Parse tells, each element has Kids or a Text, or neither.
func TestEmptyFields(t *testing.T) {
	r := rand.New(rand.NewSource(5))
	var empty func(e api.Elem) bool
	empty = func(e api.Elem) bool {
		for _, kid := range e.Kids {
			if !empty(kid) {
				return false
			}
		}
		return e.Text == "" || len(e.Kids) == 0
	}
	for range 2000 {
		e, err := xml.Parse("<a> " + dressed(r, anyElem(r, 4)) + "\n</a>")
		if err != nil || !empty(e) || e.Text != "" || len(e.Kids) != 1 {
			t.Fatal(shown(e), err)
		}
	}
}
