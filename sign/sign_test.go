package sign_test

import (
	"strings"
	"testing"

	"storehouse/api"
	"storehouse/sign"
)

// P17.2: the text that is signed, of stamps that have all of a day, and of such as have not.
func TestText(t *testing.T) {
	is := func(stamp, region, canonical, want string) {
		t.Helper()
		if got := sign.Text(stamp, region, canonical); got != want {
			t.Errorf("%q, %q, %q: %q, not %q", stamp, region, canonical, got, want)
		}
	}
	is("20130524T000000Z", "r", "", "AWS4-HMAC-SHA256\n20130524T000000Z\n20130524/r/s3/aws4_request\n"+emptySum)
	is("", "", "abc", "AWS4-HMAC-SHA256\n\n//s3/aws4_request\nba7816bf8f01cfea414140de5dae2223b00361a396177a9cb410ff61f20015ad")
	is("1234567", "a/b\n", "", "AWS4-HMAC-SHA256\n1234567\n1234567/a/b\n/s3/aws4_request\n"+emptySum)
	is("\u00e91234567", "", "", "AWS4-HMAC-SHA256\n\u00e91234567\n\u00e9123456//s3/aws4_request\n"+emptySum)
	for size := range 30 {
		stamp := "abcdefghijklmnopqrstuvwxyzABCD"[:size]
		is(stamp, "re", stamp, "AWS4-HMAC-SHA256\n"+stamp+"\n"+stamp[:min(size, 8)]+"/re/s3/aws4_request\n"+sum(stamp))
	}
}

// P17.2: the key for a day, of secrets, days and regions of all lengths.
func TestKey(t *testing.T) {
	for _, secret := range []string{"", "s", "\x00\xff", strings.Repeat("k", 60), strings.Repeat("k", 61), strings.Repeat("k", 500)} {
		for _, day := range []string{"", "20130524", "20130524T", "\xff"} {
			for _, region := range []string{"", "r", "us-east-1", "a/b", strings.Repeat("r", 100)} {
				if got := sign.Key(secret, day, region); got != modelKey(secret, day, region) || len(got) != 32 {
					t.Errorf("%q, %q, %q: %q", secret, day, region, got)
				}
			}
		}
	}
}

// P17.3: the request as it was, and three fields behind its own.
func TestSign(t *testing.T) {
	u := api.User{Name: "ann", ID: "A", Secret: "s"}
	r := api.Request{Method: "PUT", Target: "/b/%6b?z&a=1", Fields: pairs("B", " 1 ", "Host", "\th  x\t", "b", "2"), Body: "abc", Close: true}
	got := signs(t, r, u, knownAt, "r", api.OK)
	canonical := "PUT\n/b/k\na=1&z=\nhost:h x\nx-amz-content-sha256:ba7816bf8f01cfea414140de5dae2223b00361a396177a9cb410ff61f20015ad\nx-amz-date:20130524T000000Z\n\nhost;x-amz-content-sha256;x-amz-date\nba7816bf8f01cfea414140de5dae2223b00361a396177a9cb410ff61f20015ad"
	want := r
	want.Fields = append(want.Fields, pairs(
		"x-amz-date", "20130524T000000Z",
		"x-amz-content-sha256", "ba7816bf8f01cfea414140de5dae2223b00361a396177a9cb410ff61f20015ad",
		"authorization", "AWS4-HMAC-SHA256 Credential=A/20130524/r/s3/aws4_request, SignedHeaders=host;x-amz-content-sha256;x-amz-date, Signature="+modelSignature("s", "20130524T000000Z", "r", canonical))...)
	if !areSame(got, want) {
		t.Errorf("%v, not %v", got, want)
	}
	for _, method := range []string{"", "GET", "get it\n"} {
		for _, minor := range []int{-1, 0, 1, 7} {
			for _, body := range []string{"", "x", strings.Repeat("\x00", 9000)} {
				signs(t, api.Request{Method: method, Target: "/?x", Minor: minor, Fields: pairs("host", ""), Body: body}, u, 0, "r", api.OK)
			}
		}
	}
}

// P17.3: each moment has its own signature, and what is none has no one.
func TestSignMoments(t *testing.T) {
	u := api.User{ID: "A"}
	r := request("GET", "/", "", "host", "h")
	for _, now := range []int{0, 1, 86399, 86400, 951782400, api.MaxTime - 1, api.MaxTime} {
		signs(t, r, u, now, "r", api.OK)
	}
	for _, now := range []int{-1, -86400, -1 << 63, api.MaxTime + 1, 1<<63 - 1} {
		signs(t, r, u, now, "r", api.ErrArg)
	}
}

// P17.3: an ID, and a region, is one or more bytes from 33 to 126, but none of `/`, `,` and `=`.
func TestSignMarks(t *testing.T) {
	r := request("GET", "/", "", "host", "h")
	for c := range 256 {
		one := string([]byte{byte(c)})
		want := api.ErrArg
		if c > ' ' && c < 127 && c != '/' && c != ',' && c != '=' {
			want = api.OK
		}
		for _, mark := range []string{one, "x" + one, one + "x", "x" + one + "y"} {
			signs(t, r, api.User{ID: mark, Secret: "s"}, 0, "r", want)
			signs(t, r, api.User{ID: "A", Secret: "s"}, 0, mark, want)
		}
		signs(t, r, api.User{Name: one, ID: "A", Secret: one}, 0, "r", api.OK)
	}
	signs(t, r, api.User{Name: "n", Secret: "s"}, 0, "r", api.ErrArg)
	signs(t, r, api.User{ID: "A"}, 0, "", api.ErrArg)
}

// P17.3: a request that has been signed, or has not just one host, or no right target, is not signed.
func TestSignFields(t *testing.T) {
	u := api.User{ID: "A", Secret: "s"}
	for _, name := range []string{"x-amz-date", "X-Amz-Date", "x-amz-content-sha256", "X-AMZ-CONTENT-SHA256", "authorization", "Authorization", "AUTHORIZATION"} {
		signs(t, request("GET", "/", "", "host", "h", name, ""), u, 0, "r", api.ErrArg)
		signs(t, request("GET", "/", "", name, "x", "host", "h", name, "y"), u, 0, "r", api.ErrArg)
	}
	for _, name := range []string{"x-amz-dat", "x-amz-date ", "x_amz_date", "authori\u017fation", "", "x-amz-content-sha25", "date"} {
		signs(t, request("GET", "/", "", name, "x", "host", "h", name, "y"), u, 0, "r", api.OK)
	}
	for _, fields := range [][]string{{}, {"host", "h", "host", "h"}, {"host", "h", "HOST", "i"}, {"hosts", "h"}, {"ho\u017ft", "h"}} {
		signs(t, request("GET", "/", "", fields...), u, 0, "r", api.ErrArg)
	}
	for _, target := range []string{"", "*", "a", "/ ", "/\n", "/%", "/?%4", "/#", "/\x7f"} {
		signs(t, request("GET", target, "", "host", "h"), u, 0, "r", api.ErrArg)
	}
	if _, e := sign.Sign(signs(t, request("GET", "/", "", "host", "h"), u, 0, "r", api.OK), u, 0, "r"); e != api.ErrArg {
		t.Error("signed twice:", e)
	}
}
