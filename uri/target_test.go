package uri_test

import (
	"math/rand"
	"slices"
	"strings"
	"testing"

	"storehouse/api"
	"storehouse/samples"
	"storehouse/uri"
)

// asked asks what Target answers.
func asked(t *testing.T, s string, want request) {
	t.Helper()
	path, query, e, at := uri.Target(s)
	if path != want.path || !slices.Equal(query, want.query) || e != want.e || at != want.at {
		t.Fatalf("Target of %q: %q, %q, %d at %d, not %v", s, path, query, e, at, want)
	}
}

// query are pairs, of names and values by turns.
func query(texts ...string) []api.Pair {
	var all []api.Pair
	for i := 0; i < len(texts); i += 2 {
		all = append(all, api.Pair{Name: texts[i], Value: texts[i+1]})
	}
	return all
}

// The chapter's examples.
func TestTargetExamples(t *testing.T) {
	asked(t, "/b/a%20b?versions&prefix=x%2F&", request{path: "/b/a b", query: query("versions", "", "prefix", "x/")})
	asked(t, "b", request{e: api.ErrTarget})
	asked(t, "/a b", request{e: api.ErrTarget, at: 2})
	asked(t, "/?a=%4&b=1", request{e: api.ErrEscape, at: 4})
}

// P13.2: what does not begin with a slash is none, whatever it has.
func TestTargetBegins(t *testing.T) {
	for _, s := range []string{"", "b", "b/", "?a", "#", " /", "%2Fb", "%", "*", "\x00/", "http://h/b", "b %", "\xff#"} {
		asked(t, s, request{e: api.ErrTarget})
	}
	asked(t, "/", request{path: "/"})
	asked(t, "//", request{path: "//"})
}

// P13.2: each byte in the path and in the query: below 33, above 126 and # are refused, where they stand.
func TestTargetEachByte(t *testing.T) {
	for c := range 256 {
		s := string([]byte{byte(c)})
		refused := c < 33 || c > 126 || c == '#'
		for _, ahead := range []string{"/", "/ab", "/a?", "/a?b", "/a?b=", "/a?b=c&"} {
			_, _, e, at := uri.Target(ahead + s + "20")
			if refused != (e == api.ErrTarget) || e != api.OK && at != len(ahead) {
				t.Errorf("%q behind %q: %d at %d", s, ahead, e, at)
			}
			asked(t, ahead+s+"20", target(ahead+s+"20"))
		}
	}
}

// P13.2: a byte that may not be is told ahead of an escape that is none, wherever both stand; the first of each.
func TestTargetFaults(t *testing.T) {
	asked(t, "/%/a b", request{e: api.ErrTarget, at: 4})
	asked(t, "/%?a=%#", request{e: api.ErrTarget, at: 6})
	asked(t, "/a#b c", request{e: api.ErrTarget, at: 2})
	asked(t, "/a\x7f#", request{e: api.ErrTarget, at: 2})
	asked(t, "/% ", request{e: api.ErrTarget, at: 2})
	asked(t, "/%4?%", request{e: api.ErrEscape, at: 1})
	asked(t, "/%41%4", request{e: api.ErrEscape, at: 4})
	asked(t, "/a%?b%=%&%", request{e: api.ErrEscape, at: 2})
	asked(t, "/a?b%=%&%", request{e: api.ErrEscape, at: 4})
	asked(t, "/a?b=%&%", request{e: api.ErrEscape, at: 5})
	asked(t, "/a?b=&%", request{e: api.ErrEscape, at: 6})
	asked(t, "/a?b&c%%&d", request{e: api.ErrEscape, at: 6})
	asked(t, "/?&&&%41=%42&=%4", request{e: api.ErrEscape, at: 14})
}

// P13.2: an escape does not go on beyond its part, and what it tells parts nothing.
func TestTargetEscapes(t *testing.T) {
	asked(t, "/%3?41", request{e: api.ErrEscape, at: 1})
	asked(t, "/?%=41", request{e: api.ErrEscape, at: 2})
	asked(t, "/?%4=1", request{e: api.ErrEscape, at: 2})
	asked(t, "/?a=%4&1", request{e: api.ErrEscape, at: 4})
	asked(t, "/?a%&41", request{e: api.ErrEscape, at: 3})
	asked(t, "/%3Fa%23?b%3Dc=%26%3d%3F%00&%C3%A9", request{path: "/?a#", query: query("b=c", "&=?\x00", "\u00e9", "")})
	asked(t, "/%2f%2F%25?%2541", request{path: "///%", query: query("%41", "")})
}

// P13.2: the query begins behind the first ?; its parts stand between its &s; the value behind a part's first =.
func TestTargetParts(t *testing.T) {
	asked(t, "/a?", request{path: "/a"})
	asked(t, "/a?&&&", request{path: "/a"})
	asked(t, "/a?b?c=d?e", request{path: "/a", query: query("b?c", "d?e")})
	asked(t, "/a??", request{path: "/a", query: query("?", "")})
	asked(t, "/a&b=c", request{path: "/a&b=c"})
	asked(t, "/?=", request{path: "/", query: query("", "")})
	asked(t, "/?=&=a&b=", request{path: "/", query: query("", "", "", "a", "b", "")})
	asked(t, "/?a==b=&c", request{path: "/", query: query("a", "=b=", "c", "")})
	asked(t, "/?b=1&a=2&&b=1&a=0&", request{path: "/", query: query("b", "1", "a", "2", "b", "1", "a", "0")})
	asked(t, "/a+b?c+d=e+f", request{path: "/a+b", query: query("c+d", "e+f")})
	asked(t, "/a;b?c;d=e;f", request{path: "/a;b", query: query("c;d", "e;f")})
	asked(t, "/a/../b/./c//", request{path: "/a/../b/./c//"})
}

// P13.2: all short texts of bytes that matter.
func TestTargetEvery(t *testing.T) {
	for s := range samples.Every("/?&=%4", 6) {
		asked(t, "/"+s, target("/"+s))
	}
	for s := range samples.Every("/?#% 4\xff", 5) {
		asked(t, s, target(s))
	}
	r := rand.New(rand.NewSource(132))
	for range 20000 {
		s := anyText(r, 20)
		asked(t, s, target(s))
		s = "/" + strings.NewReplacer(" ", "", "#", "?", "\x00", "%25", "\x7f", "&", "\x80", "%41", "\xff", "=").Replace(s)
		asked(t, s, target(s))
	}
}

// P13.3: the pairs as they are signed.
func TestCanon(t *testing.T) {
	for _, c := range []struct {
		pairs []api.Pair
		want  string
	}{
		{query("b", "1", "a", "x y", "a", ""), "a=&a=x%20y&b=1"},
		{nil, ""},
		{[]api.Pair{}, ""},
		{query("", ""), "="},
		{query("", "", "", ""), "=&="},
		{query("a", "/", "/", "a"), "%2F=a&a=%2F"},
		{query("a", "2", "a", "10", "a", "1"), "a=1&a=10&a=2"},
		{query("a", "1", "a", "1"), "a=1&a=1"},
		{query("a=b", "c", "a", "b=c"), "a=b%3Dc&a%3Db=c"},
		{query("a&b", "+ ", "A", "%"), "A=%25&a%26b=%2B%20"},
		{query("ab", "1", "a-", "3", "a", "2", "a0", "4"), "a=2&a-=3&a0=4&ab=1"},
		{query("\xff", "", "~", "", "A", "", "\x80", "", "-", "", "\x00", ""), "%00=&%80=&%FF=&-=&A=&~="},
		{query("a", "\xff", "a", "~", "a", "A", "a", " "), "a=%20&a=%FF&a=A&a=~"},
	} {
		if got := uri.Canon(c.pairs); got != c.want || got != canon(c.pairs) {
			t.Errorf("Canon of %q: %q, not %q", c.pairs, got, c.want)
		}
	}
}

// P13.3: the order is that of the encoded names, then that of the encoded values, whatever order the pairs came in.
func TestCanonEvery(t *testing.T) {
	r := rand.New(rand.NewSource(133))
	for range 5000 {
		l := anyPairs(r, 8)
		want := canon(l)
		for range 3 {
			if got := uri.Canon(l); got != want {
				t.Fatalf("Canon of %q: %q, not %q", l, got, want)
			}
			r.Shuffle(len(l), func(i, j int) { l[i], l[j] = l[j], l[i] })
		}
	}
	var names []string
	for s := range samples.Every("a \xff-=", 3) {
		names = append(names, s)
	}
	for _, a := range names {
		for _, b := range names {
			for _, l := range [][]api.Pair{query(a, "", b, ""), query("n", a, "n", b), query(a, "z", b, "a")} {
				if got := uri.Canon(l); got != canon(l) {
					t.Fatalf("Canon of %q: %q, not %q", l, got, canon(l))
				}
			}
		}
	}
}
