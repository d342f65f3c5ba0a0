package digest_test

import (
	"encoding/base64"
	"encoding/hex"
	"math/rand"
	"strings"
	"testing"

	"storehouse/api"
	"storehouse/digest"
	"storehouse/samples"
)

// reader is Unhex or Unbase64.
type reader func(string) (string, api.Errno, int)

// right asks that s is read as text.
func right(t *testing.T, read reader, s, text string) {
	t.Helper()
	if got, e, at := read(s); got != text || e != api.OK || at != 0 {
		t.Errorf("%q is read as %q, %d at %d, not as %q", s, got, e, at, text)
	}
}

// wrong asks that s is refused at a place.
func wrong(t *testing.T, read reader, s string, place int) {
	t.Helper()
	if got, e, at := read(s); got != "" || e != api.ErrHex || at != place {
		t.Errorf("%q is read as %q, %d at %d, not refused at %d", s, got, e, at, place)
	}
}

// P1.2: two sixteenths a byte, the higher half first, small.
func TestHex(t *testing.T) {
	all := ""
	for i := range 256 {
		c := string([]byte{byte(i)})
		all += c
		want := "0123456789abcdef"[i/16:i/16+1] + "0123456789abcdef"[i%16:i%16+1]
		if got := digest.Hex(c); got != want {
			t.Errorf("Hex of %q: %q", c, got)
		}
		right(t, digest.Unhex, want, c)
	}
	if got := digest.Hex(all); got != hex.EncodeToString([]byte(all)) {
		t.Errorf("Hex of all bytes: %q", got)
	}
	right(t, digest.Unhex, hex.EncodeToString([]byte(all)), all)
	if got := digest.Hex("\x01\xaf"); got != "01af" {
		t.Errorf("%q", got)
	}
}

// P1.2: what is no text in sixteenths, and where.
func TestUnhexWrong(t *testing.T) {
	for s, place := range map[string]int{
		"0g": 1, "abc": 3, "AB": 0, "a": 1, "F": 0, "0": 1, "00F0": 2, "000G": 3, " 00": 0, "00 ": 2,
		"g": 0, "abg": 2, "abcg": 3, "gg": 0, "0g0g": 1, "00\n": 2, "0x00": 1, "00é0": 2, "12345": 5, "\x00\x00": 0,
	} {
		wrong(t, digest.Unhex, s, place)
	}
	for i := range 256 {
		if strings.IndexByte("0123456789abcdef", byte(i)) >= 0 {
			continue
		}
		c := string([]byte{byte(i)})
		for place := range 6 {
			wrong(t, digest.Unhex, strings.Repeat("0", place)+c+strings.Repeat("f", 5-place), place)
			wrong(t, digest.Unhex, strings.Repeat("0", place)+c+strings.Repeat(c, 6-place), place)
		}
	}
}

// P1.2: every short text of some bytes.
func TestUnhexEvery(t *testing.T) {
	for s := range samples.Every("09afAFg", 5) {
		place := strings.IndexFunc(s, func(c rune) bool { return !strings.ContainsRune("0123456789abcdef", c) })
		if place < 0 && len(s)%2 != 0 {
			place = len(s)
		}
		if place >= 0 {
			wrong(t, digest.Unhex, s, place)
			continue
		}
		text, _ := hex.DecodeString(s)
		right(t, digest.Unhex, s, string(text))
	}
}

// P1.3: RFC 4648, section 10, and each of the 64 at each place of a four.
func TestBase64(t *testing.T) {
	for text, want := range map[string]string{
		"": "", "f": "Zg==", "fo": "Zm8=", "foo": "Zm9v", "foob": "Zm9vYg==", "fooba": "Zm9vYmE=", "foobar": "Zm9vYmFy",
		"a": "YQ==", "ab": "YWI=", "abc": "YWJj", "\x00": "AA==", "\xff": "/w==", "\xfb\xef\xbe": "++++", "\xff\xff\xff": "////",
	} {
		if got := digest.Base64(text); got != want {
			t.Errorf("Base64 of %q: %q", text, got)
		}
		right(t, digest.Unbase64, want, text)
	}
	for i := range 64 {
		for shift := 0; shift < 24; shift += 6 {
			all := i << shift
			text := string([]byte{byte(all >> 16), byte(all >> 8), byte(all)})
			want := base64.StdEncoding.EncodeToString([]byte(text))
			if got := digest.Base64(text); got != want {
				t.Errorf("Base64 of %q: %q", text, got)
			}
			right(t, digest.Unbase64, want, text)
		}
	}
}

// P1.3: what is no text in base 64, and where.
func TestUnbase64Wrong(t *testing.T) {
	for s, place := range map[string]int{
		"YR==": 1, "YQ=": 3, "Y===": 1, "YQ==YQ==": 2, "Y*==": 1,
		"Y": 1, "YQ": 2, "YWJ": 3, "YWJjY": 5, "YWJjYQ": 6, "YWJjYQ=": 7, // a four that is not all there
		"=": 0, "====": 0, "Y=": 1, "Y=Q=": 1, "Y=QQ": 1, // where no `=` may stand
		"YQ=A": 3, "YQ=*": 3, "YWJjYQ=A": 7, // behind a third one, nothing else
		"YQ==Y": 2, "YWI=Y": 3, "YWI=YWI=": 3, "YQ===": 2, "YQ==\n": 2, "YQ======": 2, // not the last four
		"YWK=": 2, "YWJ=": 2, "YWL=": 2, "Y/==": 1, "YWJjYR==": 5, "YWJjYWJ=": 6, // bits that are not used
		"YR=": 3, "YR=A": 3, "YR=*": 3, "YR": 2, "YR*=": 2, // what stands wrong, or is not there, is told ahead of these
		" YQ==": 0, "YQ== ": 2, "YQ\n==": 2, "YQ\n=": 2, "-_==": 0, "A_==": 1, "YWJj*": 4, "é===": 0, "YWJjYW-=": 6, "\x00AAA": 0,
	} {
		wrong(t, digest.Unbase64, s, place)
	}
	for i := range 256 {
		c := string([]byte{byte(i)})
		if i == '=' || strings.Contains(the64, c) {
			continue
		}
		for place := range 8 {
			wrong(t, digest.Unbase64, strings.Repeat("A", place)+c+strings.Repeat("A", 7-place), place)
			wrong(t, digest.Unbase64, strings.Repeat("A", place)+c, place)
		}
	}
}

const the64 = "ABCDEFGHIJKLMNOPQRSTUVWXYZabcdefghijklmnopqrstuvwxyz0123456789+/"

// placeOf is where s is no text in base 64, read off the chapter byte by byte; -1: it is one.
func placeOf(s string) int {
	for i := range len(s) {
		may := the64
		switch last := i/4 == (len(s)-1)/4; {
		case last && i%4 == 2:
			may += "="
		case last && i%4 == 3 && s[i-1] == '=':
			may = "="
		case last && i%4 == 3:
			may += "="
		}
		if strings.IndexByte(may, s[i]) < 0 {
			return i
		}
	}
	if len(s)%4 != 0 {
		return len(s)
	}
	if _, err := base64.StdEncoding.Strict().DecodeString(s); err != nil {
		return len(strings.TrimRight(s, "=")) - 1
	}
	return -1
}

// asPlaceOf asks that s is read, or refused, as placeOf says.
func asPlaceOf(t *testing.T, s string) {
	t.Helper()
	if place := placeOf(s); place >= 0 {
		wrong(t, digest.Unbase64, s, place)
		return
	}
	text, _ := base64.StdEncoding.DecodeString(s)
	right(t, digest.Unbase64, s, string(text))
}

// P1.3: every short text of some bytes (bits that are set: of A none, of Q one that is used always, of E one that is used sometimes, of B the last), and many longer ones.
func TestUnbase64Every(t *testing.T) {
	for s := range samples.Every("AQEB=*", 6) {
		asPlaceOf(t, s)
	}
	r := rand.New(rand.NewSource(5))
	for range 200000 {
		s := make([]byte, r.Intn(17))
		for i := range s {
			s[i] = the64[r.Intn(64)]
		}
		for i := len(s) - r.Intn(4); i < len(s) && i > 0; i++ {
			s[i] = "=*QA"[r.Intn(4)]
		}
		asPlaceOf(t, string(s))
	}
}

// P1.5: there and back, and the other way round.
func TestThereAndBack(t *testing.T) {
	r := rand.New(rand.NewSource(6))
	for n := range 300 {
		text := anyText(r, n)
		right(t, digest.Unhex, digest.Hex(text), text)
		right(t, digest.Unbase64, digest.Base64(text), text)
	}
	for s := range samples.Every("09af", 6) {
		if text, e, _ := digest.Unhex(s); e == api.OK && digest.Hex(text) != s {
			t.Errorf("%q is read as %q", s, text)
		}
	}
	for s := range samples.Every("AQEBgw=", 4) {
		if text, e, _ := digest.Unbase64(s); e == api.OK && digest.Base64(text) != s {
			t.Errorf("%q is read as %q", s, text)
		}
	}
}
