package json_test

import (
	"math/rand"
	"slices"
	"strings"
	"testing"
	"unicode/utf8"

	"storehouse/api"
	"storehouse/json"
	"storehouse/samples"
)

// P14.2: each kind, empty and not, and within one another.
func TestWrite(t *testing.T) {
	for _, c := range []struct {
		j    api.Json
		want string
	}{
		{api.Json{Kind: api.JNull}, "null"},
		{api.Json{Kind: api.JFalse}, "false"},
		{api.Json{Kind: api.JTrue, Names: []string{}, Kids: []api.Json{}}, "true"},
		{num("1"), "1"},
		{num("-0.10E+07"), "-0.10E+07"},
		{text(""), `""`},
		{text("a/é\x7f\u2028<&>"), "\"a/é\x7f\u2028<&>\""},
		{text("\"\\\n\r\t\b\f\x00\x1f\x1a"), `"\"\\\n\r\t\u0008\u000c\u0000\u001f\u001a"`},
		{text("\U0001f600\ufffd"), "\"\U0001f600\ufffd\""},
		{list(), "[]"},
		{list(list(), object()), "[[],{}]"},
		{list(num("1"), num("2"), num("1")), "[1,2,1]"},
		{object(), "{}"},
		{object("", num("1")), `{"":1}`},
		{object("b", num("1"), "a", text("x"), "b", list()), `{"b":1,"a":"x","b":[]}`},
		{object("\"\n\x01", object("a", api.Json{Kind: api.JNull})), `{"\"\n\u0001":{"a":null}}`},
	} {
		writes(t, c.j, c.want, api.OK)
		if got := written(c.j); got != c.want {
			t.Errorf("the model: %q, not %q", got, c.want)
		}
	}
}

// P14.2: each character below 1000, and any values.
func TestWriteAny(t *testing.T) {
	for c := range 1000 {
		s := string(rune(c))
		writes(t, text(s), quoted(s), api.OK)
		writes(t, object("a"+s+s, text(s+"b")), "{"+quoted("a"+s+s)+":"+quoted(s+"b")+"}", api.OK)
	}
	r := rand.New(rand.NewSource(142))
	for range 10000 {
		j := anyValue(r, 5)
		if want := written(j); len(want) <= 8000 {
			writes(t, j, want, api.OK)
		} else {
			writes(t, j, "", api.ErrLong)
		}
	}
}

// wrong are values that are not right.
func wrong() []api.Json {
	one, names := []api.Json{num("1")}, []string{"a"}
	all := []api.Json{
		{}, {Kind: -1}, {Kind: 8}, {Kind: 100}, {Text: "a"},
		{Kind: api.JNumber, Text: "1", Names: names}, {Kind: api.JNumber, Text: "1", Kids: one},
		{Kind: api.JText, Names: names}, {Kind: api.JText, Kids: one}, {Kind: api.JText, Names: names, Kids: one},
		{Kind: api.JList, Text: "a"}, {Kind: api.JList, Names: names}, {Kind: api.JList, Names: names, Kids: one},
		{Kind: api.JObject, Text: "a"}, {Kind: api.JObject, Names: names}, {Kind: api.JObject, Kids: one}, {Kind: api.JObject, Names: names, Kids: append(one, num("2"))}, {Kind: api.JObject, Names: []string{"a", "b"}, Kids: one}, {Kind: api.JObject, Text: "a", Names: names, Kids: one},
		text("\xff"), text("a\xc3"), text("\xed\xa0\x80"), text("\xc0\x80"), object("\xff", num("1")), object("a", num("1"), "\xe2\x82", num("1")), object("a", text("\x80")),
		nested(21, num("1")), nested(40, num("1")), nested(20, list()), nested(20, object()), list(num("1"), nested(20, num("1"))),
		list(make([]api.Json, 1)...), list(num("1"), api.Json{}), object("a", api.Json{Kind: 9}),
		list(slices.Repeat([]api.Json{num("1")}, 8000)...), list(list(slices.Repeat([]api.Json{num("1")}, 7999)...)),
	}
	for _, kind := range []int{api.JNull, api.JFalse, api.JTrue} {
		all = append(all, api.Json{Kind: kind, Text: "a"}, api.Json{Kind: kind, Names: names}, api.Json{Kind: kind, Kids: one})
	}
	for i := range 4 {
		for _, j := range slices.Clone(all[:10]) {
			all = append(all, nested(i+1, j), list(num("1"), j), object("a", num("1"), "b", j))
		}
	}
	return all
}

// P14.2: what is not right is refused, alone and within others; also such as hold themselves.
func TestWriteWrong(t *testing.T) {
	for _, j := range append(wrong(), endless(1), endless(2), endless(100)) {
		writes(t, j, "", api.ErrJson)
	}
}

// endless is a list of lists, all of which are itself.
func endless(many int) api.Json {
	j := list(make([]api.Json, many)...)
	for i := range j.Kids {
		j.Kids[i] = j
	}
	return j
}

// P14.2: no number is what is none by RFC 8259; what is one is written as it is.
func TestWriteNumbers(t *testing.T) {
	ask := func(s string) {
		if number.MatchString(s) {
			writes(t, num(s), s, api.OK)
			writes(t, object("a", list(num(s))), `{"a":[`+s+`]}`, api.OK)
		} else {
			writes(t, num(s), "", api.ErrJson)
			writes(t, object("a", list(num("1"), num(s))), "", api.ErrJson)
		}
	}
	for s := range samples.Every("-01.eE+ ", 5) {
		ask(s)
	}
	for c := range 256 {
		ask(string([]byte{byte(c)}))
		ask("1" + string([]byte{byte(c)}))
		ask("1." + string([]byte{byte(c)}))
		ask(string([]byte{byte(c)}) + "1")
	}
	for _, s := range []string{"null", "1,2", "1]", "NaN", `"1"`, "0x1", "1\n", "\u0661", "\xff"} {
		ask(s)
	}
}

// P14.2: 8000 bytes are not too long, 8001 are; what is not right is told first.
func TestWriteLong(t *testing.T) {
	for _, c := range []struct {
		make func(int) api.Json
		size func(int) int
	}{
		{func(n int) api.Json { return text(strings.Repeat("a", n)) }, func(n int) int { return n + 2 }},
		{func(n int) api.Json { return text(strings.Repeat("a", n%2) + strings.Repeat("\n", n/2)) }, func(n int) int { return n + 2 }},
		{func(n int) api.Json { return text(strings.Repeat("a", n%6) + strings.Repeat("\x01", n/6)) }, func(n int) int { return n + 2 }},
		{func(n int) api.Json { return text(strings.Repeat("a", n%2) + strings.Repeat("é", n/2)) }, func(n int) int { return n + 2 }},
		{func(n int) api.Json { return num(strings.Repeat("1", n)) }, func(n int) int { return n }},
		{func(n int) api.Json { return object(strings.Repeat("a", n), num("1")) }, func(n int) int { return n + 6 }},
		{func(n int) api.Json { return list(text(strings.Repeat("a", n)), list()) }, func(n int) int { return n + 7 }},
		{func(n int) api.Json { return list(num(strings.Repeat("1", n)), api.Json{Kind: api.JNull}) }, func(n int) int { return n + 7 }},
		{func(n int) api.Json { return list(num(strings.Repeat("1", n)), api.Json{Kind: api.JFalse}) }, func(n int) int { return n + 8 }},
	} {
		most := 8000 - c.size(0)
		writes(t, c.make(most), written(c.make(most)), api.OK)
		if size := len(written(c.make(most))); size != 8000 {
			t.Error(size)
		}
		writes(t, c.make(most+1), "", api.ErrLong)
		writes(t, c.make(most+7000), "", api.ErrLong)
		writes(t, list(c.make(most+1), api.Json{}), "", api.ErrJson)
		writes(t, list(c.make(most+1), num("x")), "", api.ErrJson)
		writes(t, list(c.make(most+1), text("\xff")), "", api.ErrJson)
	}
	writes(t, list(slices.Repeat([]api.Json{num("1")}, 7999)...), "", api.ErrLong)
	writes(t, list(slices.Repeat([]api.Json{num("1")}, 4000)...), "", api.ErrLong)
	writes(t, list(append(slices.Repeat([]api.Json{num("1")}, 3998), num("11"))...), "["+strings.Repeat("1,", 3998)+"11]", api.OK)
}

// P14.2: 20 lists and objects within one another are right, however many lie beside them.
func TestWriteDeep(t *testing.T) {
	for depth := range 30 {
		j := nested(depth, num("1"))
		if depth > 20 {
			writes(t, j, "", api.ErrJson)
			continue
		}
		writes(t, j, written(j), api.OK)
		if depth < 20 {
			writes(t, list(j, j, j), written(list(j, j, j)), api.OK)
		}
	}
	writes(t, nested(19, list()), written(nested(19, list())), api.OK)
	writes(t, nested(19, object()), written(nested(19, object())), api.OK)
}

// P14.2: what is written is UTF-8 without bytes below 32.
func TestWriteIsPlain(t *testing.T) {
	r := rand.New(rand.NewSource(1422))
	for range 2000 {
		s, e := json.Write(anyValue(r, 4))
		if e == api.OK && (!utf8.ValidString(s) || strings.ContainsFunc(s, func(c rune) bool { return c < 32 })) {
			t.Fatalf("%q", s)
		}
	}
}
