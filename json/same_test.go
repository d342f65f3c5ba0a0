package json_test

import (
	"math/rand"
	"slices"
	"testing"

	"storehouse/api"
	"storehouse/json"
)

// different are right values, no two of which are the same.
func different() []api.Json {
	null := api.Json{Kind: api.JNull}
	return []api.Json{
		null, {Kind: api.JFalse}, {Kind: api.JTrue},
		num("1"), num("1.0"), num("2"), num("01"), num(""), num("x"), num("\xff"),
		text("1"), text(""), text("x"), text("X"), text("é"), text("e\u0301"), text("\x00"), text("null"), text("[]"),
		list(), list(null), list(null, null), list(list()), list(object()), list(num("1"), num("2")), list(num("2"), num("1")), list(text("a")), list(text("a"), text("")),
		object(), object("", null), object("a", null), object("A", null), object("a", num("1")), object("a", null, "b", null), object("b", null, "a", null), object("a", null, "a", null), object("a", num("1"), "b", num("2")), object("a", num("2"), "b", num("1")), object("ab", null, "", null),
		object("a", list(num("1"), object("b", num("1")))), object("a", list(num("1"), object("b", num("2")))),
		nested(20, num("1")), nested(20, num("2")), nested(19, list()),
		list(slices.Repeat([]api.Json{null}, 7999)...), list(slices.Repeat([]api.Json{null}, 7998)...),
	}
}

// P14.3: each right value is the same as its copy, and as no other.
func TestSame(t *testing.T) {
	all := different()
	for i, a := range all {
		for j, b := range all {
			if got := json.Same(a, copied(b)); got != (i == j) {
				t.Errorf("Same of %s, and %s: %v", told(a), told(b), got)
			}
		}
	}
	if !json.Same(api.Json{Kind: api.JText, Names: []string{}, Kids: []api.Json{}}, text("")) || !json.Same(api.Json{Kind: api.JList, Kids: []api.Json{}}, list()) || !json.Same(api.Json{Kind: api.JObject, Names: []string{}}, object()) {
		t.Error("nil and empty lists are not the same")
	}
}

// P14.3: what is not right is the same as nothing, not as itself either.
func TestSameWrong(t *testing.T) {
	for i, j := range append(wrong(), endless(1), endless(2)) {
		if json.Same(j, j) || json.Same(j, num("1")) || json.Same(list(), j) {
			t.Error("the wrong value", i)
		}
	}
	for _, j := range wrong() {
		if json.Same(j, copied(j)) {
			t.Errorf("Same of %s, and its copy", told(j))
		}
	}
}

// P14.3: one change anywhere in it, and a value is another one.
func TestSameChanged(t *testing.T) {
	r := rand.New(rand.NewSource(143))
	for range 5000 {
		a := anyValue(r, 4)
		b := copied(a)
		if !json.Same(a, b) || !json.Same(b, a) {
			t.Fatalf("Same of %s, and its copy", told(a))
		}
		changed(r, &b)
		if json.Same(a, b) || json.Same(b, a) || alike(a, b) {
			t.Fatalf("Same of %s, and %s", told(a), told(b))
		}
	}
}

// changed changes one thing in a value, which stays right.
func changed(r *rand.Rand, j *api.Json) {
	at := r.Intn(len(j.Kids) + 1)
	switch {
	case at < len(j.Kids) && len(j.Names) > 0 && r.Intn(2) == 0:
		j.Names[at] += "x"
	case at < len(j.Kids):
		changed(r, &j.Kids[at])
	case j.Kind == api.JText || j.Kind == api.JNumber:
		j.Text += "0"
	case j.Kind == api.JList:
		j.Kids = append(j.Kids, list())
	case j.Kind == api.JObject:
		j.Names, j.Kids = append(j.Names, ""), append(j.Kids, list())
	default:
		j.Kind = j.Kind%3 + 1
	}
}

// finds asks what Find answers.
func finds(t *testing.T, j api.Json, name string, want api.Json, wantOk bool) {
	t.Helper()
	if got, ok := json.Find(j, name); ok != wantOk || !alike(got, want) {
		t.Errorf("Find of %q in %s: %s, %v, not %s, %v", name, told(j), told(got), ok, told(want), wantOk)
	}
}

// P14.3: the kid of the first of the names, or nothing.
func TestFind(t *testing.T) {
	inner := object("a", num("9"), "d", list(text("x"), object("e", text("é"))))
	j := object("b", num("1"), "a", num("2"), "b", num("3"), "", inner, "A", list(), "z", num("x"))
	finds(t, j, "b", num("1"), true)
	finds(t, j, "a", num("2"), true)
	finds(t, j, "A", list(), true)
	finds(t, j, "", inner, true)
	finds(t, inner, "d", list(text("x"), object("e", text("é"))), true)
	finds(t, j, "z", num("x"), true)
	for _, name := range []string{"d", "B", "ab", "b ", "b\x00", "\xff", "1"} {
		finds(t, j, name, api.Json{}, false)
	}
	finds(t, object(), "", api.Json{}, false)
	finds(t, object("a", api.Json{Kind: api.JNull}), "a", api.Json{Kind: api.JNull}, true)
	finds(t, object("\U0001f600\n", num("1")), "\U0001f600\n", num("1"), true)
}

// P14.3: nothing is found in what is no object, or is not right, wherever in it the wrong thing is.
func TestFindWrong(t *testing.T) {
	for _, j := range different() {
		if j.Kind != api.JObject {
			finds(t, j, "", api.Json{}, false)
			finds(t, j, "a", api.Json{}, false)
		}
	}
	finds(t, list(object("a", num("1"))), "a", api.Json{}, false)
	for _, j := range wrong() {
		finds(t, j, "a", api.Json{}, false)
		finds(t, object("a", num("1"), "b", j), "a", api.Json{}, false)
		finds(t, object("b", j, "a", num("1")), "a", api.Json{}, false)
	}
	finds(t, api.Json{Kind: api.JObject, Names: []string{"a"}, Kids: []api.Json{num("1"), num("2")}}, "a", api.Json{}, false)
	finds(t, api.Json{Kind: api.JList, Names: []string{"a"}, Kids: []api.Json{num("1")}}, "a", api.Json{}, false)
	finds(t, api.Json{Kind: api.JObject, Text: "x", Names: []string{"a"}, Kids: []api.Json{num("1")}}, "a", api.Json{}, false)
	if j, ok := json.Find(endless(2), "a"); ok || j.Kind != 0 {
		t.Error("found in what holds itself")
	}
}
