package wire_test

import (
	"slices"
	"strings"
	"testing"

	"storehouse/api"
	"storehouse/wire"
)

// P16.6: Status of each error, of those that the chapter does not name 500.
func TestStatus(t *testing.T) {
	want := map[api.Errno]int{api.OK: 200}
	for status, all := range map[int][]api.Errno{
		400: {60, 61, 62, 63, 64, 72, 76, 80, 84, 86, 87, 88, 89, 90, 93, 98},
		403: {71, 73, 74, 75}, 404: {77, 81, 82, 85, 91, 92}, 405: {83}, 409: {78, 79}, 413: {65}, 414: {66}, 416: {97}, 431: {67}, 501: {68, 69, 94}, 503: {96}, 505: {70}, 507: {95},
	} {
		for _, e := range all {
			want[e] = status
		}
	}
	if len(want) != 98-60+1+1 {
		t.Error(len(want), "errors are named")
	}
	for e := api.Errno(-100); e < 1000; e++ {
		status, isNamed := want[e]
		if !isNamed {
			status = 500
		}
		if got := wire.Status(e); got != status {
			t.Errorf("%d: %d, not %d", e, got, status)
		}
		if wire.Reason(wire.Status(e)) == "" {
			t.Errorf("%d: a status without words", e)
		}
	}
	for _, e := range []api.Errno{-1 << 63, 1<<63 - 1, 60 + 1<<32} {
		if wire.Status(e) != 500 {
			t.Error(e, wire.Status(e))
		}
	}
}

// P16.6: Reason of each status, of others nothing.
func TestReason(t *testing.T) {
	want := map[int]string{
		200: "OK", 204: "No Content", 206: "Partial Content", 400: "Bad Request", 403: "Forbidden", 404: "Not Found", 405: "Method Not Allowed", 409: "Conflict", 411: "Length Required", 413: "Content Too Large", 414: "URI Too Long", 416: "Range Not Satisfiable", 431: "Request Header Fields Too Large",
		500: "Internal Server Error", 501: "Not Implemented", 503: "Service Unavailable", 505: "HTTP Version Not Supported", 507: "Insufficient Storage",
	}
	for status := -1000; status < 3000; status++ {
		if got := wire.Reason(status); got != want[status] {
			t.Errorf("%d: %q, not %q", status, got, want[status])
		}
	}
	if wire.Reason(200+1<<32) != "" || wire.Reason(-1<<63) != "" {
		t.Error("of a great number")
	}
}

// P16.6: Field is the value of the only pair with a name, be its letters small or capital.
func TestField(t *testing.T) {
	pairs := func(names ...string) []api.Pair {
		var l []api.Pair
		for i, name := range names {
			l = append(l, api.Pair{Name: name, Value: string(rune('0' + i))})
		}
		return l
	}
	for _, c := range []struct {
		l     []api.Pair
		name  string
		value string
		ok    bool
	}{
		{nil, "a", "", false}, {nil, "", "", false}, {[]api.Pair{}, "a", "", false}, {pairs("a"), "a", "0", true}, {pairs("a"), "b", "", false}, {pairs("a"), "", "", false}, {pairs("a"), "aa", "", false}, {pairs("aa"), "a", "", false}, {pairs(""), "", "0", true}, {pairs("", ""), "", "", false}, {[]api.Pair{{Name: "a"}}, "a", "", true},
		{pairs("a", "b", "c"), "b", "1", true}, {pairs("a", "b", "c"), "C", "2", true}, {pairs("A", "B"), "a", "0", true}, {pairs("Content-Type"), "cONTENT-tYPE", "0", true},
		{pairs("a", "b", "a"), "a", "", false}, {pairs("a", "b", "A"), "a", "", false}, {pairs("a", "b", "A"), "A", "", false}, {pairs("a", "b", "A"), "b", "1", true}, {pairs("a", "a", "a"), "a", "", false},
		{pairs("k"), "\u212a", "", false}, {pairs("\u212a"), "k", "", false}, {pairs("s"), "\u017f", "", false}, {pairs("\u00e9"), "\u00c9", "", false}, {pairs("\u00e9"), "\u00e9", "0", true}, {pairs("\xff"), "\xff", "0", true}, {pairs("\xff"), "\xfe", "", false}, {pairs("\ufffd"), "\xff", "", false},
	} {
		if value, ok := wire.Field(c.l, c.name); value != c.value || ok != c.ok {
			t.Errorf("%q of %q: %q, %v, not %q, %v", c.name, c.l, value, ok, c.value, c.ok)
		}
	}
	for a := range 256 {
		for b := range 256 {
			l := []api.Pair{{Name: string([]byte{'x', byte(a)}), Value: "v"}}
			name := string([]byte{'X', byte(b)})
			const letters = "abcdefghijklmnopqrstuvwxyz"
			alike := a == b || a|32 == b|32 && strings.IndexByte(letters, byte(a|32)) >= 0
			if value, ok := wire.Field(l, name); ok != alike || alike != (value == "v") {
				t.Fatalf("%q, %q: %q, %v", l, name, value, ok)
			}
		}
	}
	q := wire.New().Feed(head11 + "A: b\r\nc: d\r\nC: e\r\n\r\n")[0]
	if !slices.Equal(q.Fields, pairsOf("host", "h", "a", "b", "c", "d", "c", "e")) {
		t.Error(q.Fields)
	}
	if value, ok := wire.Field(q.Fields, "A"); value != "b" || !ok {
		t.Error(value, ok)
	}
	if value, ok := wire.Field(q.Fields, "c"); value != "" || ok {
		t.Error(value, ok)
	}
}

func pairsOf(texts ...string) []api.Pair { return request("", "", 0, "", false, texts...).Fields }
