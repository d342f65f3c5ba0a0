package json_test

import (
	"errors"
	"strings"
	"testing"

	"storehouse/api"
	"storehouse/json"
)

// parses asks what Parse answers; a test ends at the first wrong answer, for some ask hundreds of thousands.
func parses(t *testing.T, s string, want answer) {
	t.Helper()
	j, err := json.Parse(s)
	if got := answerOf(t, j, err); got.e != want.e || got.at != want.at || !alike(got.j, want.j) {
		t.Fatalf("Parse of %.200q: %s, %d at %d, not %s, %d at %d", s, told(got.j), got.e, got.at, told(want.j), want.e, want.at)
	}
}

// answerOf is what Parse answered; its errors are faults with nothing in them, and nil where there is none.
func answerOf(t *testing.T, j api.Json, err error) answer {
	t.Helper()
	if err == nil {
		return answer{j: j}
	}
	fault, ok := err.(*api.Fault)
	if !ok || fault == nil || fault.Inner != nil || !errors.Is(err, fault.Code) || fault.Code == api.OK {
		t.Fatalf("the error %#v", err)
	}
	return answer{j, fault.Code, fault.At}
}

// refuses asks whether Parse tells ErrJson at a place.
func refuses(t *testing.T, s string, at int) {
	t.Helper()
	parses(t, s, answer{e: api.ErrJson, at: at})
}

// tells asks whether Parse tells this value.
func tells(t *testing.T, s string, j api.Json) {
	t.Helper()
	parses(t, s, answer{j: j})
}

// writes asks what Write answers.
func writes(t *testing.T, j api.Json, want string, wantError api.Errno) {
	t.Helper()
	if got, e := json.Write(j); got != want || e != wantError {
		t.Fatalf("Write of %s: %.300q, %d, not %.300q, %d", told(j), got, e, want, wantError)
	}
}

// The chapter's examples.
func TestExamples(t *testing.T) {
	tells(t, `{"a": [1, "x", null]}`, object("a", list(num("1"), text("x"), api.Json{Kind: api.JNull})))
	refuses(t, "[1,]", 3)
	refuses(t, "[1", 2)
	refuses(t, "01", 1)
	refuses(t, "1 2", 2)
	tells(t, `"\ud83d\ude00"`, text("\U0001f600"))
	refuses(t, `"\ud83d"`, 1)
	deep := list()
	for range 19 {
		deep = list(deep)
	}
	tells(t, strings.Repeat("[", 20)+strings.Repeat("]", 20), deep)
	parses(t, strings.Repeat("[", 21)+strings.Repeat("]", 21), answer{e: api.ErrDeep, at: 20})
	refuses(t, "", 0)
	refuses(t, "nul", 3)
	refuses(t, "-", 1)
	refuses(t, "1.", 2)
	refuses(t, "1e+", 3)
}

// The kinds and the errors have the chapter's numbers and limits.
func TestNumbers(t *testing.T) {
	if api.ErrJson != 54 || api.ErrLong != 56 || api.ErrDeep != 57 || api.MaxText != 8000 || api.MaxNest != 20 {
		t.Error("errors or limits")
	}
}
