package sign_test

import (
	"fmt"
	"math/rand"
	"slices"
	"strings"
	"testing"

	"storehouse/api"
	"storehouse/sign"
	"storehouse/wire"
)

// pick is one of some texts.
func pick(r *rand.Rand, texts ...string) string { return texts[r.Intn(len(texts))] }

// mark is an ID, or a region.
func mark(r *rand.Rand) string {
	s := make([]byte, 1+r.Intn(12))
	for i := range s {
		s[i] = "abcxyzABCXYZ019!-.;:\"~"[r.Intn(22)]
	}
	return string(s)
}

// someRequest is one that can be signed, and sent.
func someRequest(r *rand.Rand) api.Request {
	body := make([]byte, r.Intn(100))
	r.Read(body)
	q := request(pick(r, "GET", "HEAD", "PUT", "POST", "DELETE"), pick(r, "/", "/b", "/b/k%20k/%e9", "/b?versions", "/b/k?b=2&a=%41&b=1&c", "/~$'()*!"), string(body))
	q.Minor, q.Close = r.Intn(2), r.Intn(2) == 0
	for range r.Intn(4) {
		q.Fields = append(q.Fields, pairs(pick(r, "a", "date", "x-amz-meta-a", "content-type", "-"), pick(r, "", "v", "a  \t b", "\x80", "text/plain"))...)
	}
	host := pairs("host", pick(r, "h", "h:80", "", "a \t b"))[0]
	q.Fields = slices.Insert(q.Fields, r.Intn(len(q.Fields)+1), host)
	return q
}

// P17.5: of what Sign tells Check tells the user, as long as it is asked within 900 seconds, in that region, by users of whom the first with the ID has the secret.
func TestThereAndBack(t *testing.T) {
	r := rand.New(rand.NewSource(5))
	for range 3000 {
		u := api.User{Name: pick(r, "", "ann"), ID: mark(r), Secret: pick(r, "", "s", "\x00\xff", strings.Repeat("k", 100))}
		at, region := r.Intn(api.MaxTime+1), mark(r)
		q := signs(t, someRequest(r), u, at, region, api.OK)
		users := []api.User{{Name: "x", ID: u.ID + "x", Secret: u.Secret}, {Name: "y"}, u, {Name: "z", ID: u.ID, Secret: "other"}}
		is := func(now int, asked string, want api.Errno) {
			t.Helper()
			wantU := api.User{}
			if want == api.OK {
				wantU = u
			}
			if got, e := sign.Check(q, users, now, asked); got != wantU || e != want {
				t.Fatalf("%q, %q, %d, %q: %q, %d, not %d", fmt.Sprint(q), users, now, asked, got, e, want)
			}
		}
		is(at, region, api.OK)
		for _, off := range []int{900, r.Intn(901)} {
			is(min(at+off, api.MaxTime), region, api.OK)
			is(max(at-off, 0), region, api.OK)
		}
		for _, off := range []int{901, 901 + r.Intn(1<<30)} {
			if at+off <= api.MaxTime {
				is(at+off, region, api.TimeSkewed)
			}
			if at-off >= 0 {
				is(at-off, region, api.TimeSkewed)
			}
		}
		is(at, region+"x", api.BadAuth)
		users[2].Secret += "x"
		is(at, region, api.BadSignature)
		users = users[:2]
		is(at, region, api.NoAccessKey)
	}
}

// T7: what is signed and sent is read again, and its user is told.
func TestSentAndRead(t *testing.T) {
	r := rand.New(rand.NewSource(7))
	for range 1000 {
		u := api.User{Name: "ann", ID: mark(r), Secret: "s"}
		q := signs(t, someRequest(r), u, knownAt, "r", api.OK)
		text, e := wire.Ask(q)
		if e != api.OK {
			t.Fatalf("%q: %d", fmt.Sprint(q), e)
		}
		cut := r.Intn(len(text))
		reader := wire.New()
		read := append(reader.Feed(text[:cut]), reader.Feed(text[cut:])...)
		if len(read) != 1 || reader.Fault() != api.OK {
			t.Fatalf("%q: %v, %d", text, read, reader.Fault())
		}
		if got, e := sign.Check(read[0], []api.User{u}, knownAt, "r"); got != u || e != api.OK {
			t.Fatalf("%q: %q, %d", text, got, e)
		}
	}
}

// T6: whoever changes a byte of what was sent is told to be the user only if what is signed, and the body, are the same.
func TestChangedOnTheWay(t *testing.T) {
	u := api.User{Name: "ann", ID: "A", Secret: "s"}
	names := []string{"host", "x-amz-content-sha256", "x-amz-date"}
	first := signs(t, request("PUT", "/b/k%20?a=b&c", "body", "host", "a b"), u, knownAt, "r", api.OK)
	want, _ := modelCanonical(first, names)
	text, _ := wire.Ask(first)
	same := 0
	for at := range len(text) {
		for c := range 256 {
			read := wire.New().Feed(text[:at] + string([]byte{byte(c)}) + text[at+1:])
			if len(read) != 1 {
				continue
			}
			if checks(t, read[0], []api.User{u}, knownAt, "r") != api.OK {
				continue
			}
			if got, _ := modelCanonical(read[0], names); got != want || read[0].Body != "body" {
				t.Errorf("%q", fmt.Sprint(read[0]))
			}
			same++
		}
	}
	if same < len(text) {
		t.Error("told to be the user", same, "times")
	}
}
