package uri_test

import (
	"math/rand"
	"slices"
	"strings"
	"testing"

	"storehouse/api"
	"storehouse/samples"
	"storehouse/uri"
)

// P13.5: Decode of Encode is the text, of all short ones of bytes that matter, and of any.
func TestDecodeOfEncode(t *testing.T) {
	r := rand.New(rand.NewSource(135))
	for s := range samples.Every("/%4f~\x00\xff ", 5) {
		decodes(t, uri.Encode(s, true), s, api.OK, 0)
		decodes(t, uri.Encode(s, false), s, api.OK, 0)
	}
	for range 3000 {
		s := anyText(r, 100)
		decodes(t, uri.Encode(s, true), s, api.OK, 0)
		decodes(t, uri.Encode(s, false), s, api.OK, 0)
	}
}

// P13.5: Split of Join is both, of each bucket's name and any key, too an empty one.
func TestSplitOfJoin(t *testing.T) {
	var keys []string
	for key := range samples.Every("/k\xff", 4) {
		keys = append(keys, key)
	}
	for name := range samples.Every("a1-.", 5) {
		if !uri.Bucket(name) {
			continue
		}
		for _, key := range keys {
			splits(t, uri.Join(name, key), name, key)
		}
	}
	splits(t, uri.Join(strings.Repeat("b", 63), strings.Repeat("k/", 5000)), strings.Repeat("b", 63), strings.Repeat("k/", 5000))
}

// inOrder are pairs in the order in which Canon tells them.
func inOrder(l []api.Pair) []api.Pair {
	return slices.SortedFunc(slices.Values(l), func(a, b api.Pair) int {
		return strings.Compare(encoded(a.Name, true)+"\x00"+encoded(a.Value, true), encoded(b.Name, true)+"\x00"+encoded(b.Value, true))
	})
}

// P13.5: a path and pairs, written as a target, are read again.
func TestTargetOfBoth(t *testing.T) {
	r := rand.New(rand.NewSource(136))
	for range 5000 {
		path, l := "/"+anyText(r, 20), anyPairs(r, 6)
		asked(t, uri.Encode(path, false)+"?"+uri.Canon(l), request{path: path, query: inOrder(l)})
	}
	for path := range samples.Every("/?&=%# \xff", 4) {
		asked(t, uri.Encode("/"+path, false)+"?"+uri.Canon(query(path, path, "", path, path, "")), request{path: "/" + path, query: inOrder(query(path, path, "", path, path, ""))})
	}
	asked(t, uri.Encode("/", false)+"?"+uri.Canon(nil), request{path: "/"})
	asked(t, uri.Encode("/", false)+"?"+uri.Canon(query("", "")), request{path: "/", query: query("", "")})
}
