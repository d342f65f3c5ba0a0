package digest_test

import (
	"math/rand"
	"strings"
	"sync"
	"testing"
	"unsafe"

	"storehouse/api"
	"storehouse/digest"
	"storehouse/samples"
)

// answers is what all calls of the layer answer of a text.
func answers(s string) []string {
	hex, e1, at1 := digest.Unhex(s)
	plain, e2, at2 := digest.Unbase64(s)
	sums := digest.New()
	sums.Write(s)
	sums.Write(s)
	return []string{
		digest.Sum256(s), digest.Sum5(s), digest.MAC(s, "text"), digest.MAC("key", s), digest.Hex(s), digest.Base64(s),
		hex, e1.Error(), strings.Repeat(".", at1), plain, e2.Error(), strings.Repeat(".", at2),
		strings.Repeat(".", sums.Size()), sums.Sum256(), sums.Sum5(),
	}
}

// P1: every call ends, and none panics, whatever bytes it gets.
func TestAnyBytes(t *testing.T) {
	r := rand.New(rand.NewSource(7))
	for s := range samples.Every("\x00\x7f\x80\xff=A", 4) {
		answers(s)
	}
	for range 2000 {
		answers(anyText(r, r.Intn(300)))
	}
	for _, s := range []string{"f", "=", "A", "\xff"} {
		answers(strings.Repeat(s, 1000000))
	}
}

// P2: with an error nothing else, without one no place; the error is OK, or ErrHex, which is 50.
func TestErrors(t *testing.T) {
	if api.ErrHex != 50 {
		t.Error("ErrHex:", int(api.ErrHex))
	}
	for s := range samples.Every("0aAQ=*", 6) {
		for name, read := range map[string]reader{"Unhex": digest.Unhex, "Unbase64": digest.Unbase64} {
			text, e, at := read(s)
			switch {
			case e == api.OK && at == 0 && (text != "") == (s != ""):
			case e == api.ErrHex && text == "" && 0 <= at && at <= len(s):
			default:
				t.Errorf("%s of %q: %q, %d at %d", name, s, text, e, at)
			}
		}
	}
}

// lent is a text whose bytes may be changed behind it.
func lent(s string) ([]byte, string) {
	bytes := []byte(s)
	return bytes, unsafe.String(unsafe.SliceData(bytes), len(bytes))
}

// P3: nothing that is handed in is written into, nor what stands behind it.
func TestNothingIsWritten(t *testing.T) {
	for _, s := range []string{strings.Repeat("f0", 70), strings.Repeat("YWJj", 40), strings.Repeat("x", 64)} {
		bytes, text := lent(s + "behind")
		answers(text[:len(s)])
		if string(bytes) != s+"behind" {
			t.Errorf("%q became %q", s, bytes)
		}
	}
}

// P3: nothing that is handed in is kept, and no answer shares its memory.
func TestNothingIsKept(t *testing.T) {
	for _, s := range []string{"", "aa", strings.Repeat("f0", 7), strings.Repeat("f0", 70), strings.Repeat("YWJj", 40)} {
		bytes, text := lent(s)
		sums := digest.New()
		sums.Write(text)
		got := answers(text)
		clear(bytes)
		want := answers(s)
		for i := range got {
			if got[i] != want[i] {
				t.Errorf("answer %d of %q changed to %q", i, s, got[i])
			}
		}
		if sums.Size() != len(s) || sums.Sum256() != wide(s) || sums.Sum5() != five(s) {
			t.Errorf("a piece %q is kept", s)
		}
	}
}

// P3: what is answered twice lies in two places.
func TestAnswersAreNew(t *testing.T) {
	sums := digest.New()
	sums.Write("abc")
	for name, call := range map[string]func() string{
		"Sum256":      func() string { return digest.Sum256("abc") },
		"Sum5":        func() string { return digest.Sum5("abc") },
		"MAC":         func() string { return digest.MAC("key", "abc") },
		"Hex":         func() string { return digest.Hex("abc") },
		"Unhex":       func() string { s, _, _ := digest.Unhex("616263"); return s },
		"Base64":      func() string { return digest.Base64("abc") },
		"Unbase64":    func() string { s, _, _ := digest.Unbase64("YWJj"); return s },
		"Sums.Sum256": sums.Sum256,
		"Sums.Sum5":   sums.Sum5,
	} {
		if a, b := call(), call(); a != b || unsafe.StringData(a) == unsafe.StringData(b) {
			t.Errorf("%s: %q, %q", name, a, b)
		}
	}
}

// P4: the same arguments, the same answers, whatever goes on beside.
func TestNothingElseCounts(t *testing.T) {
	texts := []string{"", "abc", "abcd", "YQ==", strings.Repeat("ab", 64), strings.Repeat("YWI=", 20)}
	want := map[string]string{}
	for _, s := range texts {
		want[s] = strings.Join(answers(s), "|")
	}
	var all sync.WaitGroup
	for n := range 8 {
		all.Go(func() {
			for i := range 200 {
				s := texts[(i*(n+1)+n)%len(texts)]
				if strings.Join(answers(s), "|") != want[s] {
					t.Errorf("of %q", s)
				}
			}
		})
	}
	all.Wait()
}

// P5: of nothing there is an answer, and of nothing in sixteenths or base 64 nothing.
func TestOfNothing(t *testing.T) {
	if digest.Hex("") != "" || digest.Base64("") != "" {
		t.Error("Hex, Base64")
	}
	right(t, digest.Unhex, "", "")
	right(t, digest.Unbase64, "", "")
	if digest.Sum256("") != wide("") || digest.Sum5("") != five("") || digest.MAC("", "") != mac("", "") {
		t.Error("the sums")
	}
}

// P6: the calls take no place; those that they tell lie in the text, or at its end.
func TestPlaces(t *testing.T) {
	for n := range 20 {
		ahead := strings.Repeat("0", n)
		wrong(t, digest.Unhex, ahead+"*", n)
		wrong(t, digest.Unbase64, ahead+"*", n)
		if n%2 != 0 {
			wrong(t, digest.Unhex, ahead, n)
		}
		if n%4 != 0 {
			wrong(t, digest.Unbase64, ahead, n)
		}
	}
}
