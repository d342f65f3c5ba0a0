package sign_test

import (
	"fmt"
	"math"
	"math/rand"
	"slices"
	"strings"
	"sync"
	"testing"
	"unsafe"

	"storehouse/api"
	"storehouse/sign"
)

// soup is a text of pieces that matter, and of any bytes.
func soup(r *rand.Rand, most int) string {
	s := ""
	for range r.Intn(most + 1) {
		if r.Intn(4) == 0 {
			s += string([]byte{byte(r.Intn(256))})
			continue
		}
		s += pick(r, "AWS4-HMAC-SHA256", " ", ",", ";", "/", "=", "Credential=", "SignedHeaders=", "Signature=", "A", "20130524", "T000000Z", "r", "/s3/aws4_request", "host", "x-amz-date", "x-amz-content-sha256", "%", "?", "&", "\t", emptySum, "UNSIGNED-PAYLOAD")
	}
	return s
}

// mess is a request of such texts.
func mess(r *rand.Rand) api.Request {
	q := api.Request{Method: soup(r, 2), Target: pick(r, "", "/", "/?") + soup(r, 3), Minor: r.Intn(3) - 1, Body: soup(r, 2), Close: r.Intn(2) == 0}
	for range r.Intn(8) {
		q.Fields = append(q.Fields, pairs(pick(r, "host", "x-amz-date", "x-amz-content-sha256", "authorization", "Host", "a", soup(r, 1)), soup(r, 12))...)
	}
	return q
}

// all is what all calls of the layer answer of a request and a text.
func all(q api.Request, s string, now int) string {
	users := []api.User{{Name: s, ID: s, Secret: s}, {Name: "ann", ID: "A", Secret: "s"}}
	one, e1 := sign.Canonical(q, strings.Split(s, ";"))
	two, e2 := sign.Canonical(q, []string{"host"})
	three, e3 := sign.Sign(q, users[0], now, "r")
	four, e4 := sign.Sign(q, users[1], now, s)
	five, e5 := sign.Check(q, users, now, s)
	six, e6 := sign.Check(four, users, now, s)
	return fmt.Sprint(one, e1, two, e2, three, e3, four, e4, five, e5, six, e6, sign.Text(s, s, s), sign.Key(s, s, s))
}

// P1: every call ends, and none panics, whatever it is given.
func TestAnyArguments(t *testing.T) {
	r := rand.New(rand.NewSource(1))
	for range 5000 {
		all(mess(r), soup(r, 5), knownAt)
	}
	for _, now := range []int{math.MinInt, math.MinInt + 900, -901, -900, -1, 0, 1, 900, api.MaxTime, api.MaxTime + 1, api.MaxTime + 901, math.MaxInt - 900, math.MaxInt} {
		all(fair().sent(), "A", now)
	}
	all(api.Request{}, "", 0)
	for _, s := range []string{"\x00", "\xff", " ", "/", ",", ";", "=", "a", "a;", "%41", "AWS4-HMAC-SHA256 Credential=", "\t"} {
		long := strings.Repeat(s, 50000/len(s))
		all(request(long, "/"+long, long, "host", long, "x-amz-date", long, "x-amz-content-sha256", long, "authorization", long), long, knownAt)
		all(request("GET", "/", long, "host", long, long, long), long, knownAt)
	}
}

// P2: the errors are those that the chapter names; with an error there is nothing else.
func TestErrors(t *testing.T) {
	if api.OK != 0 || api.ErrArg != 1 || api.AccessDenied != 71 || api.BadAuth != 72 || api.NoAccessKey != 73 || api.BadSignature != 74 || api.TimeSkewed != 75 || api.BadDigest != 76 {
		t.Error("the errors have other numbers")
	}
	r := rand.New(rand.NewSource(2))
	for range 5000 {
		q, s := mess(r), soup(r, 3)
		text, e := sign.Canonical(q, strings.Split(s, ";"))
		if (e == api.OK) != (text != "") || e != api.OK && e != api.ErrArg {
			t.Fatal(text, e)
		}
		signed, e := sign.Sign(q, api.User{ID: s}, knownAt, s)
		if e != api.OK && e != api.ErrArg || e != api.OK && !areSame(signed, api.Request{}) || e == api.OK && len(signed.Fields) != len(q.Fields)+3 {
			t.Fatal(signed, e)
		}
		user, e := sign.Check(q, []api.User{{Name: "x", ID: s}}, knownAt, s)
		if e != api.OK && (e < api.AccessDenied || e > api.BadDigest || user != (api.User{})) {
			t.Fatal(user, e)
		}
	}
}

// lent is a text whose bytes may be changed behind it.
func lent(s string) ([]byte, string) {
	bytes := []byte(s)
	return bytes, unsafe.String(unsafe.SliceData(bytes), len(bytes))
}

// P3: nothing that is handed in is written into, nor what stands behind it.
func TestNothingIsWritten(t *testing.T) {
	for many := range 8 {
		r := fair().sent()
		r.Fields = append(r.Fields, pairs("behind", "it", "all", "of")...)
		before := slices.Clone(r.Fields)
		names := []string{"a", "host", "x-amz-date", "behind"}
		users := []api.User{{ID: "B"}, {ID: "A", Secret: "s"}, {ID: "behind"}}
		r.Fields = r.Fields[:many]
		sign.Canonical(r, names[:min(many, 4)])
		sign.Check(r, users[:min(many, 3)], knownAt, "r")
		whole := r.Fields[:len(before)]
		if !slices.Equal(whole, before) || !slices.Equal(names, []string{"a", "host", "x-amz-date", "behind"}) || !slices.Equal(users, []api.User{{ID: "B"}, {ID: "A", Secret: "s"}, {ID: "behind"}}) {
			t.Error(whole, names, users)
		}
	}
	fields := pairs("host", "h", "a", "b", "c", "d", "e", "f", "g", "h")
	before := slices.Clone(fields)
	for many := range fields {
		sign.Sign(api.Request{Target: "/", Fields: fields[:many]}, api.User{ID: "A"}, knownAt, "r")
		if !slices.Equal(fields, before) {
			t.Error(fields)
		}
	}
	for _, s := range append([]string{"A", "r", "host;x-amz-date", " \t a \t b ", "/a%20?b"}, fair().shown()) {
		bytes, text := lent(s + "behind")
		text = text[:len(s)]
		all(request(text, "/", text, "host", text, "x-amz-date", text, "x-amz-content-sha256", text, "authorization", text), text, knownAt)
		all(request(text, text, text, "host", text, text, text), text, knownAt)
		if string(bytes) != s+"behind" {
			t.Errorf("%q", bytes)
		}
	}
}

// P3: no answer shares memory with what was handed in.
func TestNothingIsKept(t *testing.T) {
	bytes, text := lent("A")
	r := request(text, "/", text, "host", text, text, text)
	u := api.User{Name: text, ID: text, Secret: text}
	region := text
	canonical, _ := sign.Canonical(request(text, "/", text, "a", text, "x-amz-content-sha256", text), []string{"a"})
	plain, key := sign.Text(text, text, text), sign.Key(text, text, text)
	signed := signs(t, r, u, knownAt, region, api.OK)
	user, e := sign.Check(signed, []api.User{u}, knownAt, region)
	clear(bytes)
	want, _ := modelSign(request("A", "/", "A", "host", "A", "A", "A"), api.User{ID: "A", Secret: "A"}, knownAt, "A")
	if !areSame(signed, want) || user != (api.User{Name: "A", ID: "A", Secret: "A"}) || e != api.OK {
		t.Errorf("%v, %v, %d", signed, user, e)
	}
	if canonical != "A\n/\n\na:A\n\na\nA" || plain != modelText("A", "A", "A") || key != modelKey("A", "A", "A") {
		t.Errorf("%q, %q, %q", canonical, plain, key)
	}
	bytes, text = lent("/a?b")
	signed = signs(t, request("", text, "", "host", ""), api.User{ID: "A"}, knownAt, "r", api.OK)
	clear(bytes)
	if signed.Target != "/a?b" {
		t.Errorf("%q", signed.Target)
	}
}

// P3: no two lists of two answers share memory, nor one of an answer and one that was handed in.
func TestAnswersAreNew(t *testing.T) {
	r := request("GET", "/", "", "host", "h", "a", "b")
	r.Fields = append(make([]api.Pair, 0, 10), r.Fields...)
	u := api.User{ID: "A"}
	first, second := signs(t, r, u, knownAt, "r", api.OK), signs(t, r, u, knownAt, "r", api.OK)
	spoiled := first.Fields[:cap(first.Fields)]
	for i := range spoiled {
		spoiled[i] = api.Pair{Name: "spoilt", Value: "spoilt"}
	}
	want, _ := modelSign(request("GET", "/", "", "host", "h", "a", "b"), u, knownAt, "r")
	if !areSame(second, want) || !slices.Equal(r.Fields, pairs("host", "h", "a", "b")) {
		t.Errorf("%v, %v", second, r.Fields)
	}
	for name, call := range map[string]func() string{
		"Canonical": func() string { s, _ := sign.Canonical(fair().Request, []string{"host"}); return s },
		"Text":      func() string { return sign.Text("", "", "") },
		"Key":       func() string { return sign.Key("", "", "") },
	} {
		if a, b := call(), call(); a != b || unsafe.StringData(a) == unsafe.StringData(b) {
			t.Errorf("%s: %q, %q", name, a, b)
		}
	}
}

// P4, P17.5, T6: the same arguments, the same answers, whatever was asked ahead, and whatever goes on beside.
func TestNothingElseCounts(t *testing.T) {
	r := rand.New(rand.NewSource(4))
	type asked struct {
		q   api.Request
		s   string
		now int
	}
	questions := []asked{{fair().sent(), "r", knownAt}, {fair().sent(), "r", knownAt + 901}}
	for range 300 {
		questions = append(questions, asked{mess(r), soup(r, 2), knownAt}, asked{someRequest(r), mark(r), r.Intn(api.MaxTime)})
	}
	var want []string
	for _, a := range questions {
		want = append(want, all(a.q, a.s, a.now))
	}
	var done sync.WaitGroup
	for from := range 8 {
		done.Go(func() {
			for n := range questions {
				i := (n*7 + from) % len(questions)
				if a := questions[i]; all(a.q, a.s, a.now) != want[i] {
					t.Errorf("another answer of %q", fmt.Sprint(a))
				}
			}
		})
	}
	done.Wait()
}

// P5: a list of nothing may be nil or empty.
func TestOfNothing(t *testing.T) {
	for _, fields := range [][]api.Pair{nil, {}} {
		r := api.Request{Target: "/", Fields: fields}
		isCanonical(t, r, nil, "", api.ErrArg)
		isCanonical(t, r, []string{}, "", api.ErrArg)
		signs(t, r, api.User{ID: "A"}, 0, "r", api.ErrArg)
		isChecked(t, "no fields", r, nil, 0, "r", api.AccessDenied)
	}
	for _, users := range [][]api.User{nil, {}} {
		s := fair()
		s.users = users
		s.ends(t, "no users", api.NoAccessKey)
	}
}
