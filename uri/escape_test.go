package uri_test

import (
	"math/rand"
	"strings"
	"testing"

	"storehouse/api"
	"storehouse/samples"
	"storehouse/uri"
)

// encodes asks what Encode answers.
func encodes(t *testing.T, s string, slash bool, want string) {
	t.Helper()
	if got := uri.Encode(s, slash); got != want {
		t.Fatalf("Encode of %q, %v: %q, not %q", s, slash, got, want)
	}
}

// decodes asks what Decode answers.
func decodes(t *testing.T, s, want string, wantError api.Errno, wantAt int) {
	t.Helper()
	if got, e, at := uri.Decode(s); got != want || e != wantError || at != wantAt {
		t.Fatalf("Decode of %q: %q, %d at %d, not %q, %d at %d", s, got, e, at, want, wantError, wantAt)
	}
}

// The chapter's examples.
func TestEscapeExamples(t *testing.T) {
	encodes(t, "a b/\u00e9", true, "a%20b%2F%C3%A9")
	encodes(t, "a b/\u00e9", false, "a%20b/%C3%A9")
	decodes(t, "%41%2f%", "", api.ErrEscape, 6)
}

// P13.1: each byte is as it is, or an escape, alone and among others.
func TestEncodeEachByte(t *testing.T) {
	kept := 0
	for c := range 256 {
		s := string([]byte{byte(c)})
		for _, slash := range []bool{false, true} {
			encodes(t, s, slash, encoded(s, slash))
			encodes(t, "a"+s+"/ ~", slash, encoded("a"+s+"/ ~", slash))
			encodes(t, s+s, slash, encoded(s+s, slash))
		}
		if uri.Encode(s, true) == s {
			kept++
		}
	}
	if kept != 26+26+10+4 {
		t.Error(kept, "bytes need no escape")
	}
	for _, slash := range []bool{false, true} {
		encodes(t, plain, slash, plain)
		encodes(t, "", slash, "")
	}
	encodes(t, "//a/", false, "//a/")
	encodes(t, "//a/", true, "%2F%2Fa%2F")
	encodes(t, "%2F+", false, "%252F%2B")
	encodes(t, "\x00\x0a\xa0\xff", false, "%00%0A%A0%FF")
}

// P13.1: Encode looks at bytes, not at runes: what is no UTF-8 too.
func TestEncodeAnyBytes(t *testing.T) {
	r := rand.New(rand.NewSource(13))
	for range 3000 {
		s := anyText(r, 30)
		encodes(t, s, true, encoded(s, true))
		encodes(t, s, false, encoded(s, false))
	}
}

// P13.1: each escape, in small sixteenths, in capitals and in both, is its byte; what is no escape is itself.
func TestDecodeEachByte(t *testing.T) {
	for c := range 256 {
		s := string([]byte{byte(c)})
		high, low := "0123456789ABCDEF"[c>>4:][:1], "0123456789ABCDEF"[c&15:][:1]
		for _, two := range []string{high + low, strings.ToLower(high + low), strings.ToLower(high) + low, high + strings.ToLower(low)} {
			decodes(t, "%"+two, s, api.OK, 0)
			decodes(t, "a%"+two+two, "a"+s+two, api.OK, 0)
			decodes(t, "%"+two+"%"+two, s+s, api.OK, 0)
			decodes(t, "%"+two+"%", "", api.ErrEscape, 3)
		}
		if s != "%" {
			decodes(t, s, s, api.OK, 0)
			decodes(t, "+"+s+"41", "+"+s+"41", api.OK, 0)
		}
	}
}

// P13.1: of each pair of bytes behind a % just two sixteenths are right.
func TestDecodeEachPair(t *testing.T) {
	for high := range 256 {
		for low := range 256 {
			s := "/%" + string([]byte{byte(high), byte(low)})
			if badEscape(s) >= 0 {
				decodes(t, s, "", api.ErrEscape, 1)
			} else {
				decodes(t, s, decoded(s), api.OK, 0)
			}
		}
	}
}

// P13.1: what an escape tells is not read again; the first % that is wrong is told, by where it stands in the text.
func TestDecodeFaults(t *testing.T) {
	decodes(t, "", "", api.OK, 0)
	decodes(t, "%2541", "%41", api.OK, 0)
	decodes(t, "%25%32%35", "%25", api.OK, 0)
	decodes(t, "%", "", api.ErrEscape, 0)
	decodes(t, "%4", "", api.ErrEscape, 0)
	decodes(t, "%%41", "", api.ErrEscape, 0)
	decodes(t, "%4%41", "", api.ErrEscape, 0)
	decodes(t, "%41%4", "", api.ErrEscape, 3)
	decodes(t, "%41%4g%", "", api.ErrEscape, 3)
	decodes(t, "abc%zz%41%zz", "", api.ErrEscape, 3)
	decodes(t, "%-1", "", api.ErrEscape, 0)
	decodes(t, "%+1%0x", "", api.ErrEscape, 0)
	decodes(t, "% 1", "", api.ErrEscape, 0)
	decodes(t, strings.Repeat("%20", 5000)+"%2", "", api.ErrEscape, 15000)
}

// P13.1: all short texts of bytes that matter.
func TestDecodeEvery(t *testing.T) {
	for s := range samples.Every("%4fFgG", 6) {
		if at := badEscape(s); at >= 0 {
			decodes(t, s, "", api.ErrEscape, at)
		} else {
			decodes(t, s, decoded(s), api.OK, 0)
		}
	}
}
