package wire_test

import (
	"bufio"
	"fmt"
	"io"
	"math/rand"
	"net/http"
	"slices"
	"strconv"
	"strings"
	"testing"

	"storehouse/api"
	"storehouse/wire"
)

// asks asks that a request is sent as a text.
func asks(t *testing.T, q api.Request, want string) {
	t.Helper()
	if s, e := wire.Ask(q); s != want || e != api.OK {
		t.Fatalf("%.300q: %.500q, %d, not %.500q", fmt.Sprint(q), s, e, want)
	}
}

// isNotAsked asks that a request can't be sent.
func isNotAsked(t *testing.T, q api.Request) {
	t.Helper()
	if s, e := wire.Ask(q); s != "" || e != api.ErrArg {
		t.Fatalf("%.300q: %.500q, %d", fmt.Sprint(q), s, e)
	}
}

// P16.5: the line, the fields as they are, and behind them those of the layer.
func TestAsk(t *testing.T) {
	asks(t, request("GET", "/", 1, "", false, "host", "h"), bars("GET / HTTP/1.1|host: h||"))
	asks(t, request("GET", "/", 1, "", true, "host", "h"), bars("GET / HTTP/1.1|host: h|connection: close||"))
	asks(t, request("GET", "/", 0, "", true), bars("GET / HTTP/1.0||"))
	asks(t, request("GET", "/", 0, "", false), bars("GET / HTTP/1.0|connection: keep-alive||"))
	asks(t, request("PUT", "/a%20b?c", 1, "a\r\n\x00", false, "b", "", "host", "", "a", "x \t\xff", "b", "y"), bars("PUT /a%20b?c HTTP/1.1|b: |host: |a: x \t\xff|b: y|content-length: 4||a|\x00"))
	asks(t, request("POST", "*", 1, "x", true, "host", "h"), bars("POST * HTTP/1.1|host: h|content-length: 1|connection: close||x"))
	asks(t, request("DELETE", "*", 0, "xy", false, "host", "h"), bars("DELETE * HTTP/1.0|host: h|content-length: 2|connection: keep-alive||xy"))
	asks(t, request("HEAD", "*", 0, "xyz", true), bars("HEAD * HTTP/1.0|content-length: 3||xyz"))
}

// P16.5: what a Reader would tell otherwise, or refuse, is refused.
func TestAskRefuses(t *testing.T) {
	good := func() api.Request { return request("PUT", "/a", 1, "abc", false, "host", "h", "a", "b") }
	asks(t, good(), bars("PUT /a HTTP/1.1|host: h|a: b|content-length: 3||abc"))
	for _, minor := range []int{-1, 2, 9, 10, 11, -11, 1 << 40, -1 << 63} {
		q := good()
		q.Minor = minor
		isNotAsked(t, q)
	}
	for _, method := range []string{"", "get", "FOO", "PUT ", " PUT", "\nPUT", "\r\nPUT", "PU\nT", "PUT / HTTP/1.1\r\nhost: h\r\n\r\nPUT"} {
		q := good()
		q.Method = method
		isNotAsked(t, q)
	}
	for c := range 256 {
		q := good()
		q.Target = "/" + string([]byte{byte(c)})
		if '!' <= c && c <= '~' {
			asks(t, q, "PUT "+q.Target+bars(" HTTP/1.1|host: h|a: b|content-length: 3||abc"))
		} else {
			isNotAsked(t, q)
		}
	}
	for _, target := range []string{"", " ", "/ ", " /", "/\n", "/ HTTP/1.1\r\nhost: h\r\n\r\n", "/ HTTP/1.1\r\nx:"} {
		q := good()
		q.Target = target
		isNotAsked(t, q)
	}
	for _, p := range [][2]string{
		{"", "v"}, {"A", "v"}, {"aB", "v"}, {"a b", "v"}, {"a:", "v"}, {"a ", "v"}, {"\u00e9", "v"}, {"a\r\nb", "v"}, {"x: y\r\na", "v"}, {"a: ", "v"}, {"a:b", "v"},
		{"a", " v"}, {"a", "v "}, {"a", "\tv"}, {"a", "v\t"}, {"a", " "}, {"a", "v\r"}, {"a", "v\n"}, {"a", "v\x00"}, {"a", "v\x7f"}, {"a", "v\r\nb: c"}, {"a", "v\n\nx"}, {"a", "v\r\n\r\n"}, {"a", "v\r\ntransfer-encoding: chunked"}, {"a", "v\r\ncontent-length: 9"},
		{"content-length", "3"}, {"content-length", ""}, {"transfer-encoding", "chunked"}, {"transfer-encoding", ""}, {"connection", "close"}, {"connection", "keep-alive"}, {"connection", "x"}, {"Content-Length", "3"}, {"Connection", "x"}, {"host", "h"}, {"Host", "h"},
	} {
		for _, minor := range []int{0, 1} {
			for _, body := range []string{"abc", ""} {
				q := good()
				q.Minor, q.Body = minor, body
				isNotAsked(t, api.Request{Method: q.Method, Target: q.Target, Minor: minor, Body: body, Fields: append(q.Fields, api.Pair{Name: p[0], Value: p[1]})})
				isNotAsked(t, api.Request{Method: q.Method, Target: q.Target, Minor: minor, Body: body, Close: true, Fields: append([]api.Pair{{Name: p[0], Value: p[1]}}, q.Fields...)})
			}
		}
	}
	isNotAsked(t, request("GET", "/", 1, "", false))
	isNotAsked(t, request("GET", "/", 1, "", false, "hos", "h"))
	isNotAsked(t, api.Request{})
}

// P16.5: fields that are the layer's own are refused, though a Reader would tell the request as it is.
func TestAskOwnFields(t *testing.T) {
	isNotAsked(t, request("GET", "/", 1, "", false, "host", "h", "content-length", "0"))
	isNotAsked(t, request("GET", "/", 1, "", false, "host", "h", "connection", "x"))
	isNotAsked(t, request("GET", "/", 0, "", true, "connection", "close"))
	isNotAsked(t, request("GET", "/", 0, "", true, "connection", "keep-alivE"))
}

// P16.5: the limits of what is read are those of what is asked.
func TestAskLimits(t *testing.T) {
	asks(t, request("GET", x(2000), 0, "", true), "GET "+x(2000)+" HTTP/1.0\r\n\r\n")
	isNotAsked(t, request("GET", x(2001), 0, "", true))
	asks(t, request("GET", "/", 0, x(8000), true), "GET / HTTP/1.0\r\ncontent-length: 8000\r\n\r\n"+x(8000))
	isNotAsked(t, request("GET", "/", 0, x(8001), true))
	isNotAsked(t, request("GET", "/", 0, x(3000000), true))
	frame := len("GET / HTTP/1.0\r\na: \r\n\r\n")
	asks(t, request("GET", "/", 0, "", true, "a", x(8000-frame)), "GET / HTTP/1.0\r\na: "+x(8000-frame)+"\r\n\r\n")
	isNotAsked(t, request("GET", "/", 0, "", true, "a", x(8001-frame)))
	isNotAsked(t, request("GET", "/", 0, "", false, "a", x(8000-frame)))
	q := request("GET", "/", 0, "", true)
	for many := 48; many < 52; many++ {
		q.Fields = slices.Repeat([]api.Pair{{Name: "a", Value: "b"}}, many)
		for _, body := range []string{"", "x"} {
			for _, ends := range []bool{false, true} {
				q.Body, q.Close = body, ends
				all := many + len(body)
				if !ends {
					all++
				}
				if _, e := wire.Ask(q); (e == api.OK) != (all <= 50) {
					t.Error(many, body, ends, e)
				}
			}
		}
	}
}

// P16.7: what Ask tells is read as just that request, by the library, too; what it refuses would not be, by the model.
func TestAskIsRead(t *testing.T) {
	r := rand.New(rand.NewSource(165))
	sent := 0
	for range 20000 {
		q := request(pick(r, "GET", "PUT", "POST", "PUT", "FOO", "\nGET"), pick(r, "/", "/a?b", "/a b", "/\xff"), r.Intn(2), someBody(r, 5)+someBody(r, 50), r.Intn(2) == 0)
		for range r.Intn(5) {
			q.Fields = append(q.Fields, api.Pair{Name: pick(r, "a", "b-c", "host", "host", "x-9_", "B"), Value: pick(r, "", "v", "a \t b", "\xff", "v\r\nc: d", " v", "close", "chunked")})
		}
		s, e := wire.Ask(q)
		text, want := plainAsk(q)
		all := seen{requests: []api.Request{want}, done: q.Close}
		if !modelOf(text).isSame(all) {
			isNotAsked(t, q)
			continue
		}
		if e != api.OK || s != text {
			t.Fatalf("%q: %q, %d, not %q", fmt.Sprint(q), s, e, text)
		}
		sent++
		tells(t, s, want)
		readsAs(t, cut(r, s+s)...)
		byLibrary(t, s, q)
	}
	if sent < 1000 {
		t.Error(sent, "were sent")
	}
}

// plainAsk is how a request is written, and how it is told.
func plainAsk(q api.Request) (string, api.Request) {
	q.Fields = slices.Clone(q.Fields)
	if q.Body != "" {
		q.Fields = append(q.Fields, api.Pair{Name: "content-length", Value: strconv.Itoa(len(q.Body))})
	}
	if q.Close && q.Minor == 1 {
		q.Fields = append(q.Fields, api.Pair{Name: "connection", Value: "close"})
	}
	if !q.Close && q.Minor == 0 {
		q.Fields = append(q.Fields, api.Pair{Name: "connection", Value: "keep-alive"})
	}
	s := fmt.Sprintf("%s %s HTTP/1.%d\r\n", q.Method, q.Target, q.Minor)
	for _, p := range q.Fields {
		s += p.Name + ": " + p.Value + "\r\n"
	}
	return s + "\r\n" + q.Body, q
}

func byLibrary(t *testing.T, s string, q api.Request) {
	t.Helper()
	rest := bufio.NewReader(strings.NewReader(s))
	got, err := http.ReadRequest(rest)
	if err != nil {
		t.Fatalf("%q: %v", s, err)
	}
	body, err := io.ReadAll(got.Body)
	left, _ := io.ReadAll(rest)
	if err != nil || len(left) > 0 || got.Method != q.Method || got.RequestURI != q.Target || got.ProtoMajor != 1 || got.ProtoMinor != q.Minor || string(body) != q.Body || got.Close != q.Close {
		t.Fatalf("%q: %v, %q, %v, %q", s, got, body, err, left)
	}
}
