package wire_test

import (
	"bufio"
	"fmt"
	"io"
	"math/rand"
	"net/http"
	"slices"
	"strconv"
	"strings"
	"testing"

	"storehouse/api"
	"storehouse/wire"
)

// encodes asks that an answer is sent as a text.
func encodes(t *testing.T, r api.Response, want string) {
	t.Helper()
	if s, e := wire.Encode(r); s != want || e != api.OK {
		t.Fatalf("%.300q: %.500q, %d, not %.500q", fmt.Sprint(r), s, e, want)
	}
}

// isRefused asks that an answer can't be sent.
func isRefused(t *testing.T, r api.Response) {
	t.Helper()
	if s, e := wire.Encode(r); s != "" || e != api.ErrArg {
		t.Fatalf("%.300q: %.500q, %d", fmt.Sprint(r), s, e)
	}
}

// answer is one by its parts; the fields' names and values by turns.
func answer(status int, body string, fields ...string) api.Response {
	r := api.Response{Status: status, Body: body}
	for i := 0; i < len(fields); i += 2 {
		r.Fields = append(r.Fields, api.Pair{Name: fields[i], Value: fields[i+1]})
	}
	return r
}

// P16.4: the line, the fields in order, the length, what ends the connection, the body.
func TestEncode(t *testing.T) {
	encodes(t, answer(200, ""), bars("HTTP/1.1 200 OK|Content-Length: 0||"))
	encodes(t, answer(200, "a\r\n\x00\xff"), bars("HTTP/1.1 200 OK|Content-Length: 5||a|\x00\xff"))
	encodes(t, answer(404, "abc", "Date", "x", "a-_9Z", "", "Date", "y z\xff"), bars("HTTP/1.1 404 Not Found|Date: x|a-_9Z: |Date: y z\xff|Content-Length: 3||abc"))
	encodes(t, api.Response{Status: 206, Body: "abc", Close: true, Fields: []api.Pair{{Name: "A", Value: "b"}}}, bars("HTTP/1.1 206 Partial Content|A: b|Content-Length: 3|Connection: close||abc"))
	encodes(t, api.Response{Status: 500, Body: "abc", Bare: true}, bars("HTTP/1.1 500 Internal Server Error|Content-Length: 3||"))
	encodes(t, api.Response{Status: 500, Body: "abc", Bare: true, Close: true}, bars("HTTP/1.1 500 Internal Server Error|Content-Length: 3|Connection: close||"))
	encodes(t, api.Response{Status: 411, Bare: true}, bars("HTTP/1.1 411 Length Required|Content-Length: 0||"))
}

// P16.4: 204 has no length, and no body.
func TestNoContent(t *testing.T) {
	encodes(t, answer(204, ""), bars("HTTP/1.1 204 No Content||"))
	encodes(t, api.Response{Status: 204, Bare: true, Close: true, Fields: []api.Pair{{Name: "A", Value: "b"}}}, bars("HTTP/1.1 204 No Content|A: b|Connection: close||"))
	isRefused(t, answer(204, "x"))
	isRefused(t, api.Response{Status: 204, Body: "x", Bare: true})
}

// P16.4: of each status with a Reason, and of no other.
func TestEncodeStatus(t *testing.T) {
	for status := -10; status < 1100; status++ {
		reason := http.StatusText(status)
		switch status {
		case 200, 204, 206, 400, 403, 404, 405, 409, 411, 416, 431, 500, 501, 503, 505, 507:
		case 413:
			reason = "Content Too Large"
		case 414:
			reason = "URI Too Long"
		default:
			isRefused(t, answer(status, ""))
			continue
		}
		if status == 416 {
			reason = "Range Not Satisfiable"
		}
		if status != 204 {
			encodes(t, answer(status, "b"), bars("HTTP/1.1 "+strconv.Itoa(status)+" "+reason+"|Content-Length: 1||b"))
		}
	}
	for _, status := range []int{-200, 1 << 40, -1 << 63, 1<<63 - 1} {
		isRefused(t, answer(status, ""))
	}
}

// P16.4: names that are none, values with a byte below 32 or 127, or with blanks at an end, and the names that are the layer's own.
func TestEncodeFields(t *testing.T) {
	for c := range 256 {
		s := string([]byte{byte(c)})
		letter := 'a' <= c && c <= 'z' || 'A' <= c && c <= 'Z' || '0' <= c && c <= '9' || c == '-' || c == '_'
		for _, name := range []string{s, "a" + s, s + "b", "a" + s + "b"} {
			if letter {
				encodes(t, answer(200, "", name, "v"), bars("HTTP/1.1 200 OK|"+name+": v|Content-Length: 0||"))
			} else {
				isRefused(t, answer(200, "", name, "v"))
				isRefused(t, answer(200, "", "a", "b", name, "v"))
			}
		}
		for _, value := range []string{s, "v" + s, s + "v", "v" + s + "w"} {
			if c < 32 || c == 127 || c == 32 && value != "v w" {
				isRefused(t, answer(200, "", "a", value))
				isRefused(t, answer(200, "", "a", value, "b", "c"))
			} else {
				encodes(t, answer(200, "", "a", value), bars("HTTP/1.1 200 OK|a: ")+value+bars("|Content-Length: 0||"))
			}
		}
	}
	isRefused(t, answer(200, "", "", "v"))
	isRefused(t, answer(200, "", "a", "  "))
	for _, name := range []string{"content-length", "transfer-encoding", "connection"} {
		for _, one := range []string{name, strings.ToUpper(name), strings.ToUpper(name[:1]) + name[1:]} {
			isRefused(t, answer(200, "", one, ""))
			isRefused(t, answer(204, "", "a", "b", one, "0"))
		}
		encodes(t, answer(200, "", "x-"+name, "v", name+"_", "v", name[1:], "v"), bars("HTTP/1.1 200 OK|x-"+name+": v|"+name+"_: v|"+name[1:]+": v|Content-Length: 0||"))
	}
	many := slices.Repeat([]api.Pair{{Name: "a", Value: x(1000)}}, 1000)
	encodes(t, api.Response{Status: 200, Fields: many}, "HTTP/1.1 200 OK\r\n"+strings.Repeat("a: "+x(1000)+"\r\n", 1000)+"Content-Length: 0\r\n\r\n")
}

// P16.4: a body may have 1000000 bytes, whether it is sent or not.
func TestEncodeLimit(t *testing.T) {
	body := x(1000001)
	encodes(t, answer(200, body[:1000000]), bars("HTTP/1.1 200 OK|Content-Length: 1000000||")+body[:1000000])
	encodes(t, api.Response{Status: 200, Body: body[:1000000], Bare: true}, bars("HTTP/1.1 200 OK|Content-Length: 1000000||"))
	isRefused(t, answer(200, body))
	isRefused(t, api.Response{Status: 200, Body: body, Bare: true})
}

// P16.4: what is sent is read as the answer that it was by the library, too.
func TestEncodeByLibrary(t *testing.T) {
	r := rand.New(rand.NewSource(164))
	for range 2000 {
		sent := answer([]int{200, 204, 206, 404, 507}[r.Intn(5)], "")
		sent.Bare, sent.Close = r.Intn(3) == 0, r.Intn(2) == 0
		if sent.Status != 204 {
			sent.Body = someBody(r, 50)
		}
		for range r.Intn(4) {
			sent.Fields = append(sent.Fields, api.Pair{Name: pick(r, "A", "B-C", "Etag"), Value: pick(r, "", "v", "a b", "\"x\"")})
		}
		s, e := wire.Encode(sent)
		if e != api.OK {
			t.Fatal(sent, e)
		}
		asked := &http.Request{Method: map[bool]string{true: "HEAD", false: "GET"}[sent.Bare]}
		rest := bufio.NewReader(strings.NewReader(s))
		got, err := http.ReadResponse(rest, asked)
		if err != nil {
			t.Fatalf("%q: %v", s, err)
		}
		body, err := io.ReadAll(got.Body)
		left, _ := io.ReadAll(rest)
		want := map[bool]string{true: "", false: sent.Body}[sent.Bare]
		if err != nil || len(left) > 0 || got.Status != strconv.Itoa(sent.Status)+" "+wire.Reason(sent.Status) || got.Proto != "HTTP/1.1" || string(body) != want || got.Close != sent.Close || sent.Status != 204 && got.ContentLength != int64(len(sent.Body)) {
			t.Fatalf("%q: %v, %q, %v, %q", s, got, body, err, left)
		}
		for _, name := range []string{"A", "B-C", "Etag"} {
			var values []string
			for _, p := range sent.Fields {
				if p.Name == name {
					values = append(values, p.Value)
				}
			}
			if !slices.Equal(got.Header[name], values) {
				t.Fatalf("%q: %q of %s", s, got.Header[name], name)
			}
		}
	}
}
