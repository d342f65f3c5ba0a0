package sign_test

import (
	"slices"
	"strings"
	"testing"

	"storehouse/api"
	"storehouse/samples"
)

// plain is a request that can be signed, with fields of other names.
func plain(fields ...string) api.Request {
	return request("GET", "/", "", append([]string{"host", "h", "x-amz-content-sha256", "s"}, fields...)...)
}

// P17.1: the lines of a request, as the chapter's example and as the words tell them.
func TestCanonical(t *testing.T) {
	r := request("GET", "/b/k?z=1&a", "", "host", "h", "x-amz-content-sha256", "UNSIGNED-PAYLOAD")
	isCanonical(t, r, []string{"host"}, "GET\n/b/k\na=&z=1\nhost:h\n\nhost\nUNSIGNED-PAYLOAD", api.OK)
	isCanonical(t, plain("b-_9", "x", "a", ""), []string{"a", "b-_9"}, "GET\n/\n\na:\nb-_9:x\n\na;b-_9\ns", api.OK)
	isCanonical(t, plain(), []string{"x-amz-content-sha256"}, "GET\n/\n\nx-amz-content-sha256:s\n\nx-amz-content-sha256\ns", api.OK)
	r = request("any\nthing\xff", "/a%2Fb%20c/%C3%A9%e9$!?b=%2f&b=1&b&&%41=x+y", "the body is not asked", "X-Amz-Content-SHA256", " \ta  b ", "A", "v")
	isCanonical(t, r, []string{"a"}, "any\nthing\xff\n/a/b%20c/%C3%A9%E9%24%21\nA=x%2By&b=&b=%2F&b=1\na:v\n\na\n \ta  b ", api.OK)
	isCanonical(t, request("", "/", "", "x-amz-content-sha256", ""), []string{"x-amz-content-sha256"}, "\n/\n\nx-amz-content-sha256:\n\nx-amz-content-sha256\n", api.OK)
}

// P17.1: a value's rows of blanks and tabs are one blank each, and none at its ends; nothing else of it changes.
func TestCanonicalValues(t *testing.T) {
	isCanonical(t, plain("a", " \t x \t y\t\tz\t"), []string{"a"}, "GET\n/\n\na:x y z\n\na\ns", api.OK)
	isCanonical(t, plain("a", " x\r\n\v\f\u00a0\u0085\u2003y \xff"), []string{"a"}, "GET\n/\n\na:x\r\n\v\f\u00a0\u0085\u2003y \xff\n\na\ns", api.OK)
	for s := range samples.Every(" \tx\xc3", 6) {
		isAsModel(t, plain("a", s), []string{"a"})
	}
	for c := range 256 {
		one := string([]byte{byte(c)})
		isAsModel(t, plain("a", one), []string{"a"})
		isAsModel(t, plain("a", "x"+one+" \xe2\x82"+one+one), []string{"a"})
	}
}

// P17.1: a name has small letters, digits, - and _, and one byte at least.
func TestCanonicalNames(t *testing.T) {
	for c := range 256 {
		one := string([]byte{byte(c)})
		right := 'a' <= c && c <= 'z' || '0' <= c && c <= '9' || c == '-' || c == '_'
		for _, name := range []string{one, "a" + one, one + "a", "a" + one + "z"} {
			if isAsModel(t, plain(name, "v"), []string{name}) != right {
				t.Errorf("%q", name)
			}
		}
		if name := "x" + one; isAsModel(t, plain(name, "v"), []string{"host", name}) != right {
			t.Errorf("%q", name)
		}
	}
	for _, name := range []string{"", "\u00e9", "\u212a", "host:", "host;x", "hos t", "Host"} {
		isCanonical(t, plain(name, "v"), []string{name}, "", api.ErrArg)
	}
}

// P17.1: names are there, and rise by the bytes: no list of others, of up to four, is signed.
func TestCanonicalRises(t *testing.T) {
	r := plain("a", "1", "a-", "2", "a_", "3", "a0", "4", "b", "5")
	all := []string{"a", "a-", "a0", "a_", "b"}
	count := 0
	for digits := range samples.Every("01234", 4) {
		var names []string
		for _, d := range digits {
			names = append(names, all[d-'0'])
		}
		rises := digits != "" && !strings.ContainsFunc("01234", func(d rune) bool { return strings.Count(digits, string(d)) > 1 }) && slices.IsSorted([]byte(digits))
		if isAsModel(t, r, names) != rises {
			t.Errorf("%q", names)
		}
		count++
	}
	if count != 781 {
		t.Error(count, "lists")
	}
	isCanonical(t, r, nil, "", api.ErrArg)
	isCanonical(t, r, []string{}, "", api.ErrArg)
	isCanonical(t, r, append(slices.Clone(all), "host"), "GET\n/\n\na:1\na-:2\na0:4\na_:3\nb:5\nhost:h\n\na;a-;a0;a_;b;host\ns", api.OK)
}

// P17.1: each name is there just once, in whatever letters, and so is x-amz-content-sha256, signed or not.
func TestCanonicalFields(t *testing.T) {
	names := []string{"host"}
	lines := "GET\n/\n\nhost:h\n\nhost\ns"
	isCanonical(t, request("GET", "/", "", "HOST", "h", "X-AMZ-content-sha256", "s"), names, lines, api.OK)
	isCanonical(t, plain("a", "1", "A", "2", "", "3", "host ", "4", "hos\u0442", "5"), names, lines, api.OK)
	for _, fields := range [][]string{
		{},
		{"host", "h"},
		{"x-amz-content-sha256", "s"},
		{"host", "h", "host", "h", "x-amz-content-sha256", "s"},
		{"host", "h", "Host", "i", "x-amz-content-sha256", "s"},
		{"host", "h", "x-amz-content-sha256", "s", "x-amz-content-sha256", "s"},
		{"host", "h", "x-amz-content-sha256", "s", "X-Amz-Content-Sha256", ""},
		{"host", "h", "x-amz-content-sha25", "s"},
		{"host", "h", "\u017f-amz-content-sha256", "s"},
		{"ho\u017ft", "h", "x-amz-content-sha256", "s"},
	} {
		isCanonical(t, request("GET", "/", "", fields...), names, "", api.ErrArg)
	}
	isCanonical(t, plain("a", "1"), []string{"a", "b"}, "", api.ErrArg)
	isCanonical(t, plain("a", "1"), []string{"A"}, "", api.ErrArg)
	isCanonical(t, plain("a", "1", "A", "1"), []string{"a"}, "", api.ErrArg)
}

// P17.1: what is no target is not signed.
func TestCanonicalTargets(t *testing.T) {
	for c := range 256 {
		for _, target := range []string{string([]byte{byte(c)}), "/" + string([]byte{byte(c)}), "/a?b" + string([]byte{byte(c)}) + "=c"} {
			r := plain()
			r.Target = target
			right := target[0] == '/' && c > ' ' && c < 127 && c != '#' && c != '%'
			if isAsModel(t, r, []string{"host"}) != right {
				t.Errorf("%q", target)
			}
		}
	}
	for _, target := range []string{"", "*", "b/k", "http://h/", "/ ", "/%", "/%4", "/%4g", "/?a=%4", "/?%zz=1", "/#"} {
		r := plain()
		r.Target = target
		isCanonical(t, r, []string{"host"}, "", api.ErrArg)
	}
}
