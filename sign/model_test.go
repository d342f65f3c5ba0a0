package sign_test

import (
	"crypto/hmac"
	"crypto/sha256"
	"encoding/hex"
	"fmt"
	"regexp"
	"slices"
	"strings"
	"testing"
	"time"

	"storehouse/api"
	"storehouse/sign"
	"storehouse/uri"
)

// lower makes letters small, and changes nothing else.
var lower = strings.NewReplacer(strings.Split("AaBbCcDdEeFfGgHhIiJjKkLlMmNnOoPpQqRrSsTtUuVvWwXxYyZz", "")...)

// What the model looks for.
var (
	nameForm  = regexp.MustCompile(`^[a-z0-9_-]+$`)
	blankRows = regexp.MustCompile(`[ \t]+`)
	markForm  = regexp.MustCompile(`^[!-+.0-<>-~-]+$`)
	authForm  = regexp.MustCompile(`^AWS4-HMAC-SHA256 +Credential=([!-+.0-<>-~-]+)/([0-9]{8})/([^/,]*)/s3/aws4_request, *SignedHeaders=([a-z0-9_;-]*), *Signature=([0-9a-f]{64})$`)
)

// pairs are names and values, by turns.
func pairs(texts ...string) []api.Pair {
	var l []api.Pair
	for i := 0; i < len(texts); i += 2 {
		l = append(l, api.Pair{Name: texts[i], Value: texts[i+1]})
	}
	return l
}

// request is one of HTTP/1.1.
func request(method, target, body string, fields ...string) api.Request {
	return api.Request{Method: method, Target: target, Minor: 1, Fields: pairs(fields...), Body: body}
}

// valuesOf are those of the fields that have a name, or one alike.
func valuesOf(r api.Request, name string) []string {
	var l []string
	for _, p := range r.Fields {
		if lower.Replace(p.Name) == lower.Replace(name) {
			l = append(l, p.Value)
		}
	}
	return l
}

// sum is a text's SHA-256, in sixteenths, by the library.
func sum(s string) string {
	n := sha256.Sum256([]byte(s))
	return hex.EncodeToString(n[:])
}

// mac is a text's HMAC, by the library.
func mac(key, s string) string {
	h := hmac.New(sha256.New, []byte(key))
	h.Write([]byte(s))
	return string(h.Sum(nil))
}

// stampOf is a moment as package time tells it.
func stampOf(at int) string { return time.Unix(int64(at), 0).UTC().Format("20060102T150405Z") }

// momentOf is the moment whose stamp s is, as package time reads it.
func momentOf(s string) (int, bool) {
	at, err := time.Parse("20060102T150405Z", s)
	return int(at.Unix()), err == nil && stampOf(int(at.Unix())) == s && at.Year() >= 1970
}

// modelCanonical is a request as it is signed, if it can be.
func modelCanonical(r api.Request, names []string) (string, bool) {
	path, query, e, _ := uri.Target(r.Target)
	right := e == api.OK && len(names) > 0 && slices.IsSorted(names) && len(slices.Compact(slices.Clone(names))) == len(names) && len(valuesOf(r, "x-amz-content-sha256")) == 1
	text := r.Method + "\n" + uri.Encode(path, false) + "\n" + uri.Canon(query) + "\n"
	for _, name := range names {
		values := valuesOf(r, name)
		if !nameForm.MatchString(name) || len(values) != 1 {
			return "", false
		}
		text += name + ":" + strings.Trim(blankRows.ReplaceAllString(values[0], " "), " ") + "\n"
	}
	if !right {
		return "", false
	}
	return text + "\n" + strings.Join(names, ";") + "\n" + valuesOf(r, "x-amz-content-sha256")[0], true
}

// modelText is what is signed of a canonical request.
func modelText(stamp, region, canonical string) string {
	return "AWS4-HMAC-SHA256\n" + stamp + "\n" + stamp[:min(8, len(stamp))] + "/" + region + "/s3/aws4_request\n" + sum(canonical)
}

// modelKey is the key for a day.
func modelKey(secret, day, region string) string {
	return mac(mac(mac(mac("AWS4"+secret, day), region), "s3"), "aws4_request")
}

// modelSignature is a canonical request's.
func modelSignature(secret, stamp, region, canonical string) string {
	day := stamp[:min(8, len(stamp))]
	return hex.EncodeToString([]byte(mac(modelKey(secret, day, region), modelText(stamp, region, canonical))))
}

// modelSign is Sign; it asks for all that may be wrong at once, as all of it is the same error.
func modelSign(r api.Request, u api.User, now int, region string) (api.Request, api.Errno) {
	own := len(valuesOf(r, "x-amz-date")) + len(valuesOf(r, "x-amz-content-sha256")) + len(valuesOf(r, "authorization"))
	if now < 0 || now > 253402300799 || own > 0 || !markForm.MatchString(u.ID) || !markForm.MatchString(region) {
		return api.Request{}, api.ErrArg
	}
	stamp := stampOf(now)
	r.Fields = append(slices.Clone(r.Fields), pairs("x-amz-date", stamp, "x-amz-content-sha256", sum(r.Body))...)
	text, ok := modelCanonical(r, []string{"host", "x-amz-content-sha256", "x-amz-date"})
	if !ok {
		return api.Request{}, api.ErrArg
	}
	shown := fmt.Sprintf("AWS4-HMAC-SHA256 Credential=%s/%.8s/%s/s3/aws4_request, SignedHeaders=host;x-amz-content-sha256;x-amz-date, Signature=%s", u.ID, stamp, region, modelSignature(u.Secret, stamp, region, text))
	r.Fields = append(r.Fields, pairs("authorization", shown)...)
	return r, api.OK
}

// modelCheck is Check; it reads an authorization by a pattern.
func modelCheck(r api.Request, users []api.User, now int, region string) (api.User, api.Errno) {
	shown := valuesOf(r, "authorization")
	if now < 0 || now > 253402300799 {
		return api.User{}, api.ErrArg
	}
	if len(shown) == 0 {
		return api.User{}, api.AccessDenied
	}
	form := authForm.FindStringSubmatch(shown[0])
	if len(shown) > 1 || form == nil || form[3] != region {
		return api.User{}, api.BadAuth
	}
	names, stamps := strings.Split(form[4], ";"), valuesOf(r, "x-amz-date")
	text, ok := modelCanonical(r, names)
	if !ok || !slices.Contains(names, "host") || !slices.Contains(names, "x-amz-date") {
		return api.User{}, api.BadAuth
	}
	at, ok := momentOf(stamps[0])
	if !ok || !strings.HasPrefix(stamps[0], form[2]) {
		return api.User{}, api.BadAuth
	}
	for _, u := range users {
		if u.ID != form[1] {
			continue
		}
		payload := valuesOf(r, "x-amz-content-sha256")[0]
		switch {
		case max(at-now, now-at) > 900:
			return api.User{}, api.TimeSkewed
		case modelSignature(u.Secret, stamps[0], region, text) != form[5]:
			return api.User{}, api.BadSignature
		case payload != "UNSIGNED-PAYLOAD" && payload != sum(r.Body):
			return api.User{}, api.BadDigest
		}
		return u, api.OK
	}
	return api.User{}, api.NoAccessKey
}

// areSame tells whether two requests are the same.
func areSame(a, b api.Request) bool {
	return a.Method == b.Method && a.Target == b.Target && a.Minor == b.Minor && slices.Equal(a.Fields, b.Fields) && a.Body == b.Body && a.Close == b.Close
}

// isCanonical asks what Canonical tells: it is to be what the model tells, too.
func isCanonical(t *testing.T, r api.Request, names []string, want string, wantE api.Errno) {
	t.Helper()
	model, ok := modelCanonical(r, names)
	if model != want || ok != (wantE == api.OK) {
		t.Fatalf("the model tells %q of %q, %q, not %q", model, fmt.Sprint(r), names, want)
	}
	if got, e := sign.Canonical(r, names); got != want || e != wantE {
		t.Fatalf("%q, %q: %q, %d, not %q, %d", fmt.Sprint(r), names, got, e, want, wantE)
	}
}

// isAsModel asks of Canonical what the model tells, and tells whether that is a text.
func isAsModel(t *testing.T, r api.Request, names []string) bool {
	t.Helper()
	want, ok := modelCanonical(r, names)
	wantE := api.OK
	if !ok {
		wantE = api.ErrArg
	}
	isCanonical(t, r, names, want, wantE)
	return ok
}

// signs asks of Sign what the model tells, which is to have an error.
func signs(t *testing.T, r api.Request, u api.User, now int, region string, wantE api.Errno) api.Request {
	t.Helper()
	want, modelE := modelSign(r, u, now, region)
	if modelE != wantE {
		t.Fatalf("the model tells %d of %q, %q, %d, %q, not %d", modelE, fmt.Sprint(r), u, now, region, wantE)
	}
	got, e := sign.Sign(r, u, now, region)
	if !areSame(got, want) || e != wantE {
		t.Fatalf("%q, %q, %d, %q: %q, %d, not %q, %d", fmt.Sprint(r), u, now, region, fmt.Sprint(got), e, fmt.Sprint(want), wantE)
	}
	return got
}

// checks asks of Check what the model tells, and tells the error.
func checks(t *testing.T, r api.Request, users []api.User, now int, region string) api.Errno {
	t.Helper()
	want, wantE := modelCheck(r, users, now, region)
	if got, e := sign.Check(r, users, now, region); got != want || e != wantE {
		t.Fatalf("%q, %q, %d, %q: %q, %d, not %q, %d", fmt.Sprint(r), users, now, region, got, e, want, wantE)
	}
	return wantE
}

// isChecked asks that Check, and the model, tell an error.
func isChecked(t *testing.T, what string, r api.Request, users []api.User, now int, region string, want api.Errno) {
	t.Helper()
	if e := checks(t, r, users, now, region); e != want {
		t.Fatalf("%s: %d, not %d: %q, %q, %d, %q", what, e, want, fmt.Sprint(r), users, now, region)
	}
}
