package json_test

import (
	"errors"
	"fmt"
	"math/rand"
	"slices"
	"strings"
	"sync"
	"testing"
	"unsafe"

	"storehouse/api"
	"storehouse/json"
	"storehouse/samples"
)

// all is what all calls of the layer answer of a text.
func all(s string) string {
	j, err := json.Parse(s)
	text, e := json.Write(j)
	second, e2 := json.Write(api.Json{Kind: api.JObject, Names: []string{s, "a"}, Kids: []api.Json{j, {Kind: api.JNumber, Text: s}}})
	kid, ok := json.Find(j, s)
	return fmt.Sprint(j, err, text, e, second, e2, kid, ok, json.Same(j, kid))
}

// P1: every call ends, and none panics, at any text.
func TestAnyText(t *testing.T) {
	r := rand.New(rand.NewSource(1))
	for s := range samples.Every("[{\"\\u\xff:1", 5) {
		all(s)
	}
	for range 20000 {
		s := make([]byte, r.Intn(60))
		for i := range s {
			s[i] = byte(r.Intn(256))
			if r.Intn(3) > 0 {
				s[i] = `[]{}",:\u0d8e.-+ tfn`[r.Intn(20)]
			}
		}
		all(string(s))
	}
	for _, s := range []string{"[", "{", `{"":`, `"`, `\`, "1", "-", "\x00", "\xff", " ", "[]", "null"} {
		all(strings.Repeat(s, 8000/len(s)))
		all(strings.Repeat(s, 100000))
	}
}

// P1: every call ends, and none panics, at any value.
func TestAnyValue(t *testing.T) {
	r := rand.New(rand.NewSource(11))
	texts := []string{"", "a", "1", "-", "\xff", "null"}
	var any func(depth int) api.Json
	any = func(depth int) api.Json {
		j := api.Json{Kind: r.Intn(10) - 1, Text: texts[r.Intn(len(texts))]}
		for range r.Intn(4) {
			j.Names = append(j.Names, texts[r.Intn(len(texts))])
		}
		for range r.Intn(4) * min(depth, 1) {
			j.Kids = append(j.Kids, any(depth-1))
		}
		return j
	}
	for range 20000 {
		a, b := any(3), any(3)
		s, e := json.Write(a)
		if (e == api.OK) != (s != "") {
			t.Fatal(s, e)
		}
		json.Same(a, b)
		json.Find(a, "a")
		json.Find(b, "")
	}
	for _, j := range []api.Json{endless(1), endless(2), endless(1000), object("a", endless(3)), nested(1000, num("1")), twice(19), twice(60)} {
		if s, e := json.Write(j); s != "" || e != api.ErrJson {
			t.Error(s, e)
		}
		if _, ok := json.Find(j, "a"); ok || json.Same(j, j) {
			t.Error("right")
		}
	}
}

// twice is a list that holds one list twice, which holds one twice, and so on.
func twice(depth int) api.Json {
	j := list()
	for range depth {
		j = list(j, j)
	}
	return j
}

// P2: with an error there is nothing else; without one the error is nil itself; each error is new.
func TestErrors(t *testing.T) {
	for s := range samples.Every("[{\"}]1 ", 5) {
		j, err := json.Parse(s)
		if got := answerOf(t, j, err); got.e != api.OK && !alike(j, api.Json{}) || got.e == api.OK && j.Kind == 0 || got.at > len(s) {
			t.Errorf("%q: %v", s, got)
		}
	}
	_, first := json.Parse("[1,")
	_, second := json.Parse("[1,")
	if first == second {
		t.Error("one fault was given out twice")
	}
	var fault *api.Fault
	if !errors.As(first, &fault) || *fault != (api.Fault{Code: api.ErrJson, At: 3}) || !errors.Is(first, api.ErrJson) || errors.Is(first, api.ErrDeep) {
		t.Error(first)
	}
	fault.At = 9
	if _, err := json.Parse("[1,"); err.Error() != second.Error() {
		t.Error(err)
	}
}

// P3: nothing that is handed in is written into, nor what stands behind it.
func TestNothingIsWritten(t *testing.T) {
	room := func(j api.Json) api.Json {
		j.Names = append(append(make([]string, 0, 9), j.Names...), "behind")[:len(j.Names)]
		j.Kids = append(append(make([]api.Json, 0, 9), j.Kids...), num("8"))[:len(j.Kids)]
		return j
	}
	for _, j := range append(different(), wrong()...) {
		j = room(j)
		before := copied(j)
		json.Write(j)
		json.Same(j, j)
		json.Find(j, "a")
		json.Find(j, "")
		if !alike(j, before) || j.Names[:len(j.Names)+1][len(j.Names)] != "behind" || !alike(j.Kids[:len(j.Kids)+1][len(j.Kids)], num("8")) {
			t.Errorf("%s became %s", told(before), told(j))
		}
	}
	bytes := []byte(whole + "behind")
	json.Parse(unsafe.String(unsafe.SliceData(bytes), len(whole)))
	if string(bytes) != whole+"behind" {
		t.Errorf("the text became %q", bytes)
	}
}

// P3: nothing that is handed in is kept: answers stay, though it changes.
func TestNothingIsKept(t *testing.T) {
	bytes := []byte(whole)
	j, err := json.Parse(unsafe.String(unsafe.SliceData(bytes), len(bytes)))
	clear(bytes)
	if want := parsed(whole); err != nil || !alike(j, want.j) {
		t.Errorf("%s, %v", told(j), err)
	}
	for _, j := range []api.Json{num("12"), text("abc"), list(num("12"), text("abc")), object("ab", text("cd"), "ef", list(object("gh", num("34"))))} {
		outer := object("name", j)
		kid, ok := json.Find(outer, "name")
		s, _ := json.Write(outer)
		want := copied(j)
		spoil(&outer)
		if !ok || !alike(kid, want) || s != `{"name":`+written(want)+`}` {
			t.Errorf("%s became %s, %q", told(want), told(kid), s)
		}
	}
	number := []byte("12")
	kid, _ := json.Find(object("a", list(num(unsafe.String(unsafe.SliceData(number), 2)), object(unsafe.String(unsafe.SliceData(number), 2), num("1")))), "a")
	clear(number)
	if !alike(kid, list(num("12"), object("12", num("1")))) {
		t.Error(told(kid))
	}
}

// spoil writes over all lists of a value, and the room behind them.
func spoil(j *api.Json) {
	for i := range j.Kids {
		spoil(&j.Kids[i])
	}
	names, kids := j.Names[:cap(j.Names)], j.Kids[:cap(j.Kids)]
	for i := range names {
		names[i] = "spoilt"
	}
	for i := range kids {
		kids[i] = text("spoilt")
	}
}

// P3: no two lists of one answer share memory, spare room too, nor do lists of two answers.
func TestAnswersAreNew(t *testing.T) {
	s := `[["a",1],{"b":1,"c":[2,3,[]]},[],{},{"b":[1],"b":[1]},[[1],[1],[1]]]`
	outer := object("name", parsed(s).j)
	answers := map[string]func() api.Json{
		"Parse": func() api.Json { j, _ := json.Parse(s); return j },
		"Find":  func() api.Json { j, _ := json.Find(outer, "name"); return j },
	}
	for name, call := range answers {
		for i := range len(parsed(s).j.Kids) {
			first, second := call(), call()
			spoil(&first.Kids[i])
			if i > 0 && !alike(list(first.Kids[:i]...), list(second.Kids[:i]...)) || !alike(list(first.Kids[i+1:]...), list(second.Kids[i+1:]...)) {
				t.Errorf("%s: the lists of one answer share memory: %s", name, told(first))
			}
			spoil(&first)
			if !alike(second, parsed(s).j) || !alike(outer.Kids[0], second) {
				t.Errorf("%s: the lists of two answers share memory: %s", name, told(second))
			}
		}
	}
	same := list(num("1"), num("2"))
	kid, _ := json.Find(object("a", list(same, same)), "a")
	spoil(&kid.Kids[0])
	if !alike(kid.Kids[1], list(num("1"), num("2"))) {
		t.Errorf("a list that was handed in twice is one in the answer: %s", told(kid))
	}
}

// P4: the same arguments, the same answers, whatever was asked ahead, and whatever goes on beside.
func TestNothingElseCounts(t *testing.T) {
	r := rand.New(rand.NewSource(4))
	texts := []string{"", "[", "[1,]", `"\ud83d`, whole, whole[:40], strings.Repeat("[", 21)}
	for range 300 {
		texts = append(texts, spaced(r, anyValue(r, 4)))
	}
	var want []string
	for _, s := range texts {
		want = append(want, all(s))
	}
	var done sync.WaitGroup
	for from := range 8 {
		done.Go(func() {
			for n := range texts {
				i := (n*7 + from) % len(texts)
				if all(texts[i]) != want[i] {
					t.Errorf("another answer of %q", texts[i])
				}
			}
		})
	}
	done.Wait()
}

// P5: what a kind has no use for is empty in what Parse and Find answer.
func TestEmptyFields(t *testing.T) {
	r := rand.New(rand.NewSource(5))
	var empty func(j api.Json) bool
	empty = func(j api.Json) bool {
		hasText, hasNames, hasKids := j.Kind == api.JNumber || j.Kind == api.JText, j.Kind == api.JObject, j.Kind == api.JList || j.Kind == api.JObject
		return (hasText || j.Text == "") && (hasNames || len(j.Names) == 0) && (hasKids || len(j.Kids) == 0) && !slices.ContainsFunc(j.Kids, func(kid api.Json) bool { return !empty(kid) })
	}
	for range 2000 {
		j, err := json.Parse(`{"a":` + spaced(r, anyValue(r, 4)) + "}")
		kid, _ := json.Find(j, "a")
		if err == nil && (!empty(j) || !empty(kid)) {
			t.Fatal(told(j))
		}
	}
}
