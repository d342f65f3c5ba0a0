package xml_test

import (
	"errors"
	"testing"

	"storehouse/api"
	"storehouse/xml"
)

// parses asks what Parse answers; a test ends at the first wrong answer, for some ask hundreds of thousands.
func parses(t *testing.T, s string, want answer) {
	t.Helper()
	e, err := xml.Parse(s)
	if got := answerOf(t, e, err); got.code != want.code || got.at != want.at || !alike(got.e, want.e) {
		t.Fatalf("Parse of %.300q: %s, %d at %d, not %s, %d at %d", s, shown(got.e), got.code, got.at, shown(want.e), want.code, want.at)
	}
}

// answerOf is what Parse answered; its errors are faults with nothing in them, and nil where there is none.
func answerOf(t *testing.T, e api.Elem, err error) answer {
	t.Helper()
	if err == nil {
		return answer{e: e}
	}
	fault, ok := err.(*api.Fault)
	if !ok || fault == nil || fault.Inner != nil || !errors.Is(err, fault.Code) || fault.Code == api.OK {
		t.Fatalf("the error %#v", err)
	}
	return answer{e, fault.Code, fault.At}
}

// model asks whether Parse answers what the model does.
func model(t *testing.T, s string) {
	t.Helper()
	parses(t, s, parsed(s))
}

// refuses asks whether Parse tells ErrXml at a place.
func refuses(t *testing.T, s string, at int) {
	t.Helper()
	parses(t, s, answer{code: api.ErrXml, at: at})
}

// tells asks whether Parse tells this element.
func tells(t *testing.T, s string, e api.Elem) {
	t.Helper()
	parses(t, s, answer{e: e})
}

// writes asks what Write answers.
func writes(t *testing.T, e api.Elem, want string, wantError api.Errno) {
	t.Helper()
	if got, code := xml.Write(e); got != want || code != wantError {
		t.Fatalf("Write of %s: %.300q, %d, not %.300q, %d", shown(e), got, code, want, wantError)
	}
}

// The chapter's examples.
func TestExamples(t *testing.T) {
	tells(t, "<a><b>x&amp;y</b><c/></a>", elem("a", text("b", "x&y"), elem("c")))
	tells(t, "<a> <b/> </a>", elem("a", elem("b")))
	tells(t, "<a> </a>", text("a", " "))
	refuses(t, "<a>x<b/></a>", 4)
	refuses(t, "<a><b/>x</a>", 7)
	refuses(t, "<a></b>", 5)
	refuses(t, "<a>", 3)
	refuses(t, "<a>&q;</a>", 3)
	tells(t, `<a xmlns="u" x:y='1' />`, elem("a"))
	refuses(t, "<1/>", 1)
	refuses(t, "", 0)
	refuses(t, "<a/>x", 4)
	writes(t, text("a", `<"`), "<?xml version=\"1.0\" encoding=\"UTF-8\"?>\n<a>&lt;&quot;</a>", api.OK)
}

// The errors and the limits have the chapter's numbers.
func TestNumbers(t *testing.T) {
	if api.ErrXml != 55 || api.ErrLong != 56 || api.ErrDeep != 57 || api.MaxText != 8000 || api.MaxNest != 20 || api.MaxElems != 20000 || api.MaxAnswer != 1000000 {
		t.Error("errors or limits")
	}
}
