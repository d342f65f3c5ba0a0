package uri_test

import (
	"fmt"
	"math/rand"
	"slices"
	"strings"
	"sync"
	"testing"
	"unsafe"

	"storehouse/api"
	"storehouse/samples"
	"storehouse/uri"
)

// texts are those that all calls of the layer answer of a text.
func texts(s string) []string {
	plain, e1, at1 := uri.Decode(s)
	path, pairs, e2, at2 := uri.Target(s)
	bucket, key := uri.Split(s)
	all := []string{
		uri.Encode(s, true), uri.Encode(s, false), plain, path, uri.Canon(query(s, s, "", s)), uri.Canon(pairs), bucket, key, uri.Join(s, s), uri.Join(s, ""),
		fmt.Sprint(e1, at1, e2, at2, uri.Bucket(s)),
	}
	for _, p := range pairs {
		all = append(all, p.Name, p.Value)
	}
	return all
}

// P1: every call ends, and none panics, whatever bytes it gets.
func TestAnyArguments(t *testing.T) {
	r := rand.New(rand.NewSource(1))
	for s := range samples.Every("\x00\xff%/", 5) {
		texts(s)
	}
	for range 3000 {
		texts(anyText(r, 300))
		texts("/" + anyText(r, 300))
	}
	for _, s := range []string{"/", "%", "%41", "?", "&", "=", "a", ".", "1.", "\x00", "\xff", "/?a&"} {
		texts(strings.Repeat(s, 100000))
		texts("/?" + strings.Repeat(s, 100000))
	}
}

// P2: the errors are ErrEscape, which is 52, and ErrTarget, which is 53; with an error nothing else, without one no place.
func TestErrors(t *testing.T) {
	if api.ErrEscape != 52 || api.ErrTarget != 53 || api.OK != 0 {
		t.Error(int(api.ErrEscape), int(api.ErrTarget), int(api.OK))
	}
	for s := range samples.Every("/?a=%4 ", 5) {
		path, pairs, e, at := uri.Target(s)
		switch {
		case e == api.OK && at == 0 && path != "":
		case (e == api.ErrEscape || e == api.ErrTarget) && path == "" && len(pairs) == 0 && 0 <= at && at <= len(s):
		default:
			t.Errorf("%q: %q, %q, %d at %d", s, path, pairs, e, at)
		}
		text, e, at := uri.Decode(s)
		switch {
		case e == api.OK && at == 0 && (text != "") == (s != ""):
		case e == api.ErrEscape && text == "" && 0 <= at && at < len(s):
		default:
			t.Errorf("%q: %q, %d at %d", s, text, e, at)
		}
	}
}

// lent is a text whose bytes may be changed behind it.
func lent(s string) ([]byte, string) {
	bytes := []byte(s)
	return bytes, unsafe.String(unsafe.SliceData(bytes), len(bytes))
}

// someTexts are those whose answers share the most with them, if any do.
func someTexts() []string {
	return []string{"abc", "/bucket/key", "/bucket", "/path?name=value&second=2", "/%41?%42%43=%44", "abc.def", "/a b", "%4", "/bucket/key/of/it?list-type=2&delimiter=/"}
}

// P3: nothing that is handed in is written into, nor what stands behind it.
func TestNothingIsWritten(t *testing.T) {
	for _, s := range someTexts() {
		bytes, text := lent(s + "behind")
		texts(text[:len(s)])
		if string(bytes) != s+"behind" {
			t.Errorf("%q became %q", s, bytes)
		}
	}
	l := query("b", "2", "b", "1", "a", "", "z", "z")
	uri.Canon(l[:3])
	if !slices.Equal(l, query("b", "2", "b", "1", "a", "", "z", "z")) {
		t.Errorf("the pairs became %q", l)
	}
}

// P3: nothing that is handed in is kept, and no answer shares its memory.
func TestNothingIsKept(t *testing.T) {
	for _, s := range someTexts() {
		bytes, text := lent(s)
		got := texts(text)
		clear(bytes)
		if want := texts(s); !slices.Equal(got, want) {
			t.Errorf("the answers of %q changed to %q, not %q", s, got, want)
		}
	}
}

// P3: what is answered twice lies in two places, texts and lists.
func TestAnswersAreNew(t *testing.T) {
	for name, call := range map[string]func() string{
		"Encode":         func() string { return uri.Encode("abc", true) },
		"Decode":         func() string { s, _, _ := uri.Decode("abc"); return s },
		"Target, path":   func() string { s, _, _, _ := uri.Target("/abc?ab=cd"); return s },
		"Target, name":   func() string { _, l, _, _ := uri.Target("/abc?ab=cd"); return l[0].Name },
		"Target, value":  func() string { _, l, _, _ := uri.Target("/abc?ab=cd"); return l[0].Value },
		"Canon":          func() string { return uri.Canon(query("ab", "cd")) },
		"Split, bucket":  func() string { s, _ := uri.Split("/ab/cd"); return s },
		"Split, key":     func() string { _, s := uri.Split("/ab/cd"); return s },
		"Join":           func() string { return uri.Join("ab", "cd") },
		"Join, no key":   func() string { return uri.Join("ab", "") },
		"Canon of names": func() string { return uri.Canon(query("ab", "", "cd", "")) },
	} {
		if a, b := call(), call(); a != b || unsafe.StringData(a) == unsafe.StringData(b) {
			t.Errorf("%s: %q, %q", name, a, b)
		}
	}
	_, first, _, _ := uri.Target("/?a=b&c=d&e")
	_, second, _, _ := uri.Target("/?a=b&c=d&e")
	clear(first[:cap(first)])
	if !slices.Equal(second, query("a", "b", "c", "d", "e", "")) {
		t.Errorf("one list of pairs became %q", second)
	}
}

// P4: the same arguments, the same answers, whatever was asked ahead, and whatever goes on beside.
func TestNothingElseCounts(t *testing.T) {
	r := rand.New(rand.NewSource(4))
	all := someTexts()
	for range 500 {
		all = append(all, "/"+anyText(r, 20))
	}
	want := make([][]string, len(all))
	for i, s := range all {
		want[i] = texts(s)
	}
	var done sync.WaitGroup
	for from := range 8 {
		done.Go(func() {
			for n := range all {
				i := (n*7 + from) % len(all)
				if !slices.Equal(texts(all[i]), want[i]) {
					t.Errorf("another answer of %q", all[i])
				}
			}
		})
	}
	done.Wait()
}

// P5: of nothing there is nothing, and nil and an empty list are the same.
func TestOfNothing(t *testing.T) {
	encodes(t, "", true, "")
	decodes(t, "", "", api.OK, 0)
	if uri.Canon(nil) != "" || uri.Canon([]api.Pair{}) != "" {
		t.Error("Canon")
	}
	splits(t, "", "", "")
	named(t, "", false)
}
