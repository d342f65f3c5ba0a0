package xml_test

import (
	"math/rand"
	"slices"
	"strings"
	"testing"

	"storehouse/api"
	"storehouse/xml"
)

// different are right elements, no two of which are the same.
func different() []api.Elem {
	return []api.Elem{
		elem("a"), elem("A"), elem("b"), elem("_"), elem("ab"), elem("a.b"), elem(strings.Repeat("n", 100)), elem(strings.Repeat("n", 99)),
		text("a", "x"), text("a", "X"), text("a", " "), text("a", "\n"), text("a", "x "), text("a", "xy"), text("a", "&amp;"), text("a", "&"), text("a", "é"), text("a", "e\u0301"), text("b", "x"), text("a", "<b/>"),
		elem("a", elem("b")), elem("a", elem("c")), elem("a", elem("b"), elem("b")), elem("a", elem("b"), elem("c")), elem("a", elem("c"), elem("b")), elem("a", text("b", "x")), elem("a", elem("b", elem("c"))), elem("a", elem("b"), elem("b"), elem("b")), elem("b", elem("b")), elem("a", elem("b", elem("b"))),
		elem("a", text("b", "x"), text("c", "y")), elem("a", text("b", "y"), text("c", "x")), elem("a", elem("b", text("c", "x"), elem("d")), elem("e")), elem("a", elem("b", text("c", "x")), elem("d"), elem("e")),
		nested(19, elem("n")), nested(19, text("n", "x")), nested(18, elem("n")), nested(19, elem("m")),
		elem("a", slices.Repeat([]api.Elem{elem("b")}, 19999)...), elem("a", slices.Repeat([]api.Elem{elem("b")}, 19998)...), text("a", strings.Repeat("x", 2000000)), text("a", strings.Repeat("x", 1999999)+"y"),
	}
}

// P15.3: each right element is the same as its copy, and as no other.
func TestSame(t *testing.T) {
	all := different()
	for i, a := range all {
		for j, b := range all {
			if got := xml.Same(a, copied(b)); got != (i == j) {
				t.Errorf("Same of %s, and %s: %v", shown(a), shown(b), got)
			}
		}
	}
	if !xml.Same(api.Elem{Name: "a", Kids: []api.Elem{}}, elem("a")) || !xml.Same(elem("a", api.Elem{Name: "a", Text: "x", Kids: []api.Elem{}}), elem("a", text("a", "x"))) {
		t.Error("nil and empty lists are not the same")
	}
}

// P15.3: what is not right is the same as nothing, not as itself either.
func TestSameWrong(t *testing.T) {
	for i, e := range append(wrong(), endless(1), endless(2), twice(19), twice(60)) {
		if xml.Same(e, e) || xml.Same(e, elem("a")) || xml.Same(elem("a"), e) {
			t.Error("the wrong element", i)
		}
	}
	for _, e := range wrong() {
		if xml.Same(e, copied(e)) {
			t.Errorf("Same of %s, and its copy", shown(e))
		}
	}
}

// P15.3: one change anywhere in it, and an element is another one.
func TestSameChanged(t *testing.T) {
	r := rand.New(rand.NewSource(153))
	for range 10000 {
		a := anyElem(r, 4)
		b := copied(a)
		if !xml.Same(a, b) || !xml.Same(b, a) {
			t.Fatalf("Same of %s, and its copy", shown(a))
		}
		changed(r, &b)
		if xml.Same(a, b) || xml.Same(b, a) || alike(a, b) || !xml.Same(b, b) {
			t.Fatalf("Same of %s, and %s", shown(a), shown(b))
		}
	}
}

// changed changes one thing in an element, which stays right.
func changed(r *rand.Rand, e *api.Elem) {
	at := r.Intn(len(e.Kids) + 3)
	switch {
	case at < len(e.Kids):
		changed(r, &e.Kids[at])
	case at == len(e.Kids):
		e.Name += "n"
	case len(e.Kids) == 0:
		e.Text += "x"
	case at == len(e.Kids)+1:
		e.Kids = append(e.Kids, elem("k"))
	default:
		from := r.Intn(len(e.Kids))
		e.Kids = append(e.Kids[:from], e.Kids[from+1:]...)
	}
}

// finds asks what Find answers.
func finds(t *testing.T, e api.Elem, name string, want ...api.Elem) {
	t.Helper()
	if got := xml.Find(e, name); !slices.EqualFunc(got, want, alike) {
		t.Errorf("Find of %q in %s: %s, not %s", name, shown(e), shown(elem("", got...)), shown(elem("", want...)))
	}
}

// says asks what Text answers.
func says(t *testing.T, e api.Elem, name, want string, wantOk bool) {
	t.Helper()
	if got, ok := xml.Text(e, name); got != want || ok != wantOk {
		t.Errorf("Text of %q in %s: %q, %v, not %q, %v", name, shown(e), got, ok, want, wantOk)
	}
}

// outer has Kids of some names, once, twice, with and without Kids of their own.
func outer() api.Elem {
	return elem("o", text("b", "1"), elem("a", text("b", "2"), elem("x")), text("b", "3"), elem("c"), text("d", " y\n"), elem("b", elem("b")), elem("e"), elem("e", elem("x")), text("A", "4"), text("o", "5"))
}

// P15.3: all Kids of a name, in their order, with all that is in them; not what is deeper, nor the element itself.
func TestFind(t *testing.T) {
	e := outer()
	finds(t, e, "b", text("b", "1"), text("b", "3"), elem("b", elem("b")))
	finds(t, e, "a", elem("a", text("b", "2"), elem("x")))
	finds(t, e, "c", elem("c"))
	finds(t, e, "e", elem("e"), elem("e", elem("x")))
	finds(t, e, "A", text("A", "4"))
	finds(t, e, "o", text("o", "5"))
	for _, name := range []string{"", "x", "B", "ab", "b ", "b\x00", "\xff", "1", "*"} {
		finds(t, e, name)
	}
	finds(t, elem("a"), "a")
	finds(t, text("a", "b"), "b")
	finds(t, elem("a", slices.Repeat([]api.Elem{elem("b")}, 19999)...), "b", slices.Repeat([]api.Elem{elem("b")}, 19999)...)
	finds(t, nested(19, elem("n")), "n", nested(18, elem("n")))
}

// P15.3: the Text of the only Kid of a name, if that has no Kids.
func TestText(t *testing.T) {
	e := outer()
	says(t, e, "c", "", true)
	says(t, e, "d", " y\n", true)
	says(t, e, "A", "4", true)
	says(t, e, "o", "5", true)
	for _, name := range []string{"a", "b", "e", "x", "", "D", "d ", "cd", "\xff"} {
		says(t, e, name, "", false)
	}
	says(t, elem("a"), "a", "", false)
	says(t, text("a", "x"), "a", "", false)
	says(t, elem("a", text("b", "x"), text("b", "x")), "b", "", false)
	says(t, elem("a", elem("b"), elem("b", elem("c"))), "b", "", false)
	says(t, elem("a", elem("b", elem("c")), text("b", "x")), "b", "", false)
	says(t, elem("a", elem("b", text("c", "x"))), "c", "", false)
	says(t, elem("a", api.Elem{Name: "b", Text: "x", Kids: []api.Elem{}}), "b", "x", true)
}

// P15.3: neither asks whether the element is right.
func TestFindWrong(t *testing.T) {
	for _, e := range wrong() {
		for _, outer := range []api.Elem{{Kids: []api.Elem{e, elem("k"), e}}, {Name: "1", Text: "x", Kids: []api.Elem{e, elem("k"), e}}} {
			finds(t, outer, e.Name, e, e)
			finds(t, outer, "k", elem("k"))
			says(t, outer, "k", "", true)
			says(t, outer, e.Name, "", false)
		}
		says(t, elem("a", e), e.Name, map[bool]string{true: e.Text}[len(e.Kids) == 0], len(e.Kids) == 0)
	}
	finds(t, elem("a", text("", "\xff"), elem("b")), "", text("", "\xff"))
	says(t, elem("a", text("\xff", "\x00")), "\xff", "\x00", true)
	deep := nested(2000, text("a", "x"))
	finds(t, deep, "n", nested(1999, text("a", "x")))
	finds(t, elem("a", elem("b", slices.Repeat([]api.Elem{elem("c")}, 100000)...)), "b", elem("b", slices.Repeat([]api.Elem{elem("c")}, 100000)...))
	finds(t, twice(12), "t", twice(11), twice(11))
}

// P1: what holds itself can't be told as a copy, and is told as nothing.
func TestFindEndless(t *testing.T) {
	for _, e := range []api.Elem{endless(1), endless(2), endless(1000), elem("a", elem("e", elem("b"), endless(1)), elem("e"))} {
		finds(t, e, "e")
		finds(t, e, "x")
	}
	finds(t, elem("a", endless(2), text("b", "x")), "b", text("b", "x"))
	finds(t, twice(60), "t")
	says(t, endless(1), "e", "", false)
	says(t, elem("a", endless(1), text("b", "x")), "b", "x", true)
}
