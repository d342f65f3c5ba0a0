package uri_test

import (
	"math/rand"
	"strings"
	"testing"

	"storehouse/samples"
	"storehouse/uri"
)

// splits asks what Split answers.
func splits(t *testing.T, path, wantBucket, wantKey string) {
	t.Helper()
	if bucket, key := uri.Split(path); bucket != wantBucket || key != wantKey {
		t.Fatalf("Split of %q: %q, %q, not %q, %q", path, bucket, key, wantBucket, wantKey)
	}
}

// named asks what Bucket answers.
func named(t *testing.T, s string, want bool) {
	t.Helper()
	if uri.Bucket(s) != want || bucket(s) != want {
		t.Fatalf("Bucket of %q: %v, not %v", s, uri.Bucket(s), want)
	}
}

// P13.4: a path's bucket and its key.
func TestSplit(t *testing.T) {
	splits(t, "/b/k/l", "b", "k/l")
	splits(t, "/b", "b", "")
	splits(t, "/", "", "")
	splits(t, "b/k", "", "")
	splits(t, "", "", "")
	splits(t, "b", "", "")
	splits(t, " /b/k", "", "")
	splits(t, "b//k", "", "")
	splits(t, "/b/", "b", "")
	splits(t, "//k", "", "k")
	splits(t, "///", "", "/")
	splits(t, "/b//k//", "b", "/k//")
	splits(t, "/B ?#%2F\xff/k\x00?%2F", "B ?#%2F\xff", "k\x00?%2F")
	for s := range samples.Every("/b\xff", 7) {
		bucket, key := split(s)
		splits(t, s, bucket, key)
	}
}

// P13.4: the path of a bucket and a key, whatever both are.
func TestJoin(t *testing.T) {
	for _, c := range [][3]string{
		{"b", "k", "/b/k"}, {"b", "k/l/", "/b/k/l/"}, {"b", "", "/b"}, {"", "", "/"}, {"", "k", "//k"},
		{"b", "/", "/b//"}, {"b", "/k", "/b//k"}, {"/b/", "", "//b/"}, {"b ", "%2F\xff", "/b /%2F\xff"}, {"b", "\x00", "/b/\x00"},
	} {
		if got := uri.Join(c[0], c[1]); got != c[2] {
			t.Errorf("Join of %q, %q: %q", c[0], c[1], got)
		}
	}
}

// P13.4: names that may be, and names that may not.
func TestBucket(t *testing.T) {
	for _, s := range []string{"my-b.1", "abc", "000", "a-b", "a.b", "a--b", "a---b", "a1.b2.c3", "1.2.3", "1.2.3.4.5", "1.2.3.a", "1.2.3.4a", "a1.2.3.4", "1.2-0.3.4", "1234", "1-2-3-4", "xn--a", "aws", "999.999"} {
		named(t, s, true)
	}
	for _, s := range []string{"My", "Mya", "1.2.3.4", "192.168.0.1", "0000.1.22.333", "1.2.3.99999999999999999999999", "a..b", "a...b", "ab", "a", "", "-ab", "ab-", ".ab", "ab.", "a.-b", "a-.b", "a-.-b", "a_b", "a/b", "a b", "a\x00b", "abC", "ab\n", "\nabc", "abc\n", "\u00e9ab", "a\u00e9b", "a\xffb", "a~b", "a%b", "...", "---", "a.b.", "1..2.3.4"} {
		named(t, s, false)
	}
}

// P13.4: from 3 to 63 bytes.
func TestBucketSize(t *testing.T) {
	for size := range 130 {
		named(t, strings.Repeat("a", size), size >= 3 && size <= 63)
		named(t, strings.Repeat("0", size), size >= 3 && size <= 63)
		named(t, "a"+strings.Repeat("-", max(0, size-2))+"b", max(2, size) >= 3 && size <= 63)
	}
	named(t, strings.Repeat("a.", 31)+"a", true)
	named(t, strings.Repeat("a.", 32)+"a", false)
	named(t, "1.2.3."+strings.Repeat("4", 57), false)
}

// P13.4: each byte at the beginning, in the midst, and at the end.
func TestBucketEachByte(t *testing.T) {
	for c := range 256 {
		s := string([]byte{byte(c)})
		firm := 'a' <= c && c <= 'z' || '0' <= c && c <= '9'
		named(t, s+"bc", firm)
		named(t, "ab"+s, firm)
		named(t, s+strings.Repeat("a", 62), firm)
		named(t, strings.Repeat("a", 62)+s, firm)
		named(t, "a"+s+"c", firm || c == '-' || c == '.')
		named(t, "1.2.3"+s+"4", firm || c == '-')
	}
}

// P13.4: all short texts of bytes that matter, and longer ones.
func TestBucketEvery(t *testing.T) {
	for s := range samples.Every("a1.-A", 6) {
		named(t, s, bucket(s))
	}
	for s := range samples.Every("1.", 12) {
		named(t, s, bucket(s))
	}
	r := rand.New(rand.NewSource(134))
	for range 20000 {
		s := make([]byte, r.Intn(70))
		for i := range s {
			s[i] = "abcdefgh0123456789abcdefgh0123456789.-"[r.Intn(38)]
		}
		named(t, string(s), bucket(string(s)))
	}
}
