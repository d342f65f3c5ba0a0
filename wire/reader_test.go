package wire_test

import (
	"strconv"
	"strings"
	"testing"

	"storehouse/api"
	"storehouse/samples"
	"storehouse/wire"
)

// Beginnings of requests. (In the tests' texts a bar is a carriage return and a line feed.)
const (
	line11  = "PUT /a HTTP/1.1\r\n"
	head11  = line11 + "host: h\r\n"
	chunked = head11 + "Transfer-Encoding: chunked\r\n\r\n"
)

// bars is a text with line ends for its bars.
func bars(s string) string { return strings.ReplaceAll(s, "|", "\r\n") }

// request is one by its parts; the fields' names and values by turns.
func request(method, target string, minor int, body string, ends bool, fields ...string) api.Request {
	q := api.Request{Method: method, Target: target, Minor: minor, Body: body, Close: ends}
	for i := 0; i < len(fields); i += 2 {
		q.Fields = append(q.Fields, api.Pair{Name: fields[i], Value: fields[i+1]})
	}
	return q
}

// tells asks that a text is just these requests, with nothing wrong or held, and that the last one is complete at the last byte.
func tells(t *testing.T, s string, want ...api.Request) {
	t.Helper()
	r := wire.New()
	requests := r.Feed(s[:len(s)-1])
	if len(requests) != len(want)-1 || r.Done() {
		t.Fatalf("%.300q: %v ahead of the last byte", s, told(r, requests))
	}
	requests = append(requests, r.Feed(s[len(s)-1:])...)
	all := seen{requests: want, done: want[len(want)-1].Close}
	if got := told(r, requests); !got.isSame(all) || !modelOf(s).isSame(all) {
		t.Fatalf("%.300q: %v, by the model %v, not %v", s, got, modelOf(s), all)
	}
}

// refuses asks that a text is wrong, and that this shows at its last byte.
func refuses(t *testing.T, s string, e api.Errno) {
	t.Helper()
	r := wire.New()
	requests := r.Feed(s[:len(s)-1])
	if len(requests) > 0 || r.Fault() != api.OK || r.Done() {
		t.Fatalf("%.300q: %v ahead of the last byte", s, told(r, requests))
	}
	requests = r.Feed(s[len(s)-1:])
	all := seen{fault: e, done: true}
	if got := told(r, requests); !got.isSame(all) || !modelOf(s).isSame(all) {
		t.Fatalf("%.300q: %v, by the model %v, not %v", s, got, modelOf(s), all)
	}
}

// waits asks that a text is the beginning of a request of which so many bytes are held.
func waits(t *testing.T, s string, held int) {
	t.Helper()
	r := wire.New()
	all := seen{held: held}
	if got := told(r, r.Feed(s)); !got.isSame(all) || !modelOf(s).isSame(all) {
		t.Fatalf("%.300q: %v, by the model %v, not %v", s, got, modelOf(s), all)
	}
}

// The chapter's examples.
func TestReaderExamples(t *testing.T) {
	tells(t, bars("GET /a HTTP/1.1|Host: h||"), request("GET", "/a", 1, "", false, "host", "h"))
	put := bars("PUT /a HTTP/1.1|host: h|Content-Length: 3||abc")
	tells(t, put, request("PUT", "/a", 1, "abc", false, "host", "h", "content-length", "3"))
	waits(t, put[:len(put)-1], 49)
	r := wire.New()
	if got := told(r, r.Feed(put+"GET")); len(got.requests) != 1 || got.held != 3 || got.done {
		t.Error(got)
	}
	tells(t, bars("PUT /a HTTP/1.1|host:h|transfer-encoding: chunked||3|abc|0||"), request("PUT", "/a", 1, "abc", false, "host", "h", "transfer-encoding", "chunked"))
	refuses(t, bars("GARBAGE|"), api.BadLine)
	refuses(t, bars("FOO / HTTP/1.1|"), api.NoMethod)
	refuses(t, bars("GET / HTTP/2.0|"), api.BadVersion)
	refuses(t, bars("GET / HTTP/1.1||"), api.NoHost)
	refuses(t, bars("GET / HTTP/1.1|host: a|host: a||"), api.NoHost)
	tells(t, bars("GET / HTTP/1.0||"), request("GET", "/", 0, "", true))
	r = wire.New()
	r.Feed(bars("GET / HTTP/1.1|host : h||"))
	if r.Fault() != api.BadField || !r.Done() {
		t.Error(r.Fault())
	}
	refuses(t, bars("GET / HTTP/1.1|host : h|"), api.BadField)
}

// P16.2: a new Reader holds nothing, and nothing is wrong; without bytes nothing changes.
func TestNew(t *testing.T) {
	r := wire.New()
	if got := told(r, r.Feed("")); !got.isSame(seen{}) || wire.New() == r {
		t.Error(got)
	}
	r.Feed("GE")
	if got := told(r, r.Feed("")); !got.isSame(seen{held: 2}) {
		t.Error(got)
	}
}

// A line ends at a line feed, a carriage return right ahead of it belongs to the end; one elsewhere is a byte of the line.
func TestLineEnds(t *testing.T) {
	want := request("PUT", "/a", 1, "ab", false, "host", "h", "transfer-encoding", "chunked")
	lines := []string{"PUT /a HTTP/1.1", "host: h", "transfer-encoding: chunked", "", "2", "ab", "0", ""}
	for mask := range 1 << len(lines) {
		s := ""
		for i, line := range lines {
			s += line + []string{"\n", "\r\n"}[mask>>i&1]
		}
		tells(t, s, want)
		readsStepwise(t, s)
	}
	refuses(t, "GET / HTTP/1.1\r\r\n", api.BadLine)
	refuses(t, "\rGET / HTTP/1.1\r\n", api.BadLine)
	refuses(t, "GET /\r HTTP/1.1\r\n", api.BadLine)
	refuses(t, "\r\r\n", api.BadLine)
	refuses(t, line11+"host: h\r\r\n", api.BadField)
	refuses(t, line11+"host:\r h\n", api.BadField)
	refuses(t, line11+"\r\r\n", api.BadField)
	refuses(t, line11+"\rhost: h\r\n", api.BadField)
	refuses(t, chunked+"1\r\r\n", api.BadChunk)
	refuses(t, chunked+"1\ra\n", api.BadChunk)
	refuses(t, chunked+"0\r\n\r\r\n", api.BadChunk)
	refuses(t, chunked+"1\r\na\r\r", api.BadChunk)
}

// Empty lines ahead of a request, also of the next one, are read over; what has a byte is none.
func TestEmptyLines(t *testing.T) {
	get := request("GET", "/", 1, "", false, "host", "h")
	text := bars("GET / HTTP/1.1|host:h||")
	tells(t, "\r\n\n\n\r\n"+text+"\n\r\n"+text, get, get)
	waits(t, "\n\r\n\n", 0)
	waits(t, "\n\r", 1)
	waits(t, "\r\n", 0)
	waits(t, "\n\rG", 2)
	waits(t, "\r ", 2)
	waits(t, " ", 1)
	refuses(t, "\n \n", api.BadLine)
	refuses(t, "\n\t\r\n", api.BadLine)
	waits(t, strings.Repeat("\r\n", 50000)+"\r", 1)
	tells(t, strings.Repeat("\r\n", 50000)+text, get)
	r := wire.New()
	r.Feed(text)
	if r.Feed("\r"); r.Held() != 1 {
		t.Error("behind a request", r.Held(), "bytes are held, not the carriage return")
	}
	if r.Feed("\n"); r.Held() != 0 || r.Done() {
		t.Error("behind an empty line", r.Held(), "bytes are held")
	}
	for s := range samples.Every("\r\nG ", 6) {
		readsAs(t, s)
		readsAs(t, text+s)
	}
}

// P16.1: the first line: each form that is none is BadLine, ahead of NoMethod, and this ahead of BadVersion.
func TestFirstLine(t *testing.T) {
	for _, method := range []string{"GET", "HEAD", "PUT", "POST", "DELETE"} {
		tells(t, method+" * HTTP/1.1\nhost:\n\n", request(method, "*", 1, "", false, "host", ""))
		for _, other := range []string{method + "S", method[1:], "X" + method} {
			refuses(t, other+" * HTTP/1.1\n", api.NoMethod)
			refuses(t, other+" * HTTP/2.1\n", api.NoMethod)
			refuses(t, other+" * HTTP/1.1 \n", api.BadLine)
		}
		refuses(t, strings.ToLower(method)+" * HTTP/1.1\n", api.BadLine)
	}
	for _, line := range []string{
		"GARBAGE", "GET", "GET ", "GET /", "GET / ", "GET  HTTP/1.1", "GET  / HTTP/1.1", "GET /  HTTP/1.1", "GET / / HTTP/1.1", " GET / HTTP/1.1", "GET / HTTP/1.1 ", "/ HTTP/1.1", " / HTTP/1.1", "GET\t/\tHTTP/1.1",
		"GET / HTTP/1.", "GET / HTTP/.1", "GET / HTTP/1", "GET / HTTP/11", "GET / HTTP/1.10", "GET / HTTP/01.1", "GET / http/1.1", "GET / HTTP1.1", "GET / HTTP/1,1", "GET / HTTP/x.1", "GET / HTTP/d.d", "GET / HTTPS/1.1", "GET / HTTP//1.1", "G3T / HTTP/1.1", "GE-T / HTTP/1.1", "FOO /", "\xff",
	} {
		refuses(t, line+"\r\n", api.BadLine)
	}
	for n := range 100 {
		version := strconv.Itoa(n/10) + "." + strconv.Itoa(n%10)
		readsStepwise(t, "GET / HTTP/"+version+"\nhost:\n\n")
		if version != "1.0" && version != "1.1" {
			refuses(t, "GET / HTTP/"+version+"\r\n", api.BadVersion)
		}
	}
	for c := range 256 {
		s := "GET /" + string([]byte{byte(c)}) + " HTTP/1.1"
		if '!' <= c && c <= '~' {
			tells(t, s+"\nhost:\n\n", request("GET", "/"+string(rune(c)), 1, "", false, "host", ""))
		} else if c != '\n' {
			refuses(t, s+"\n", api.BadLine)
		}
	}
}

// P16.1: fields: names of letters, digits, `-` and `_`, told in small letters; values of all bytes but those below 32 and 127, and tabs; the blanks around them are none of them.
func TestFields(t *testing.T) {
	for _, c := range []struct{ line, name, value string }{
		{"A:b", "a", "b"}, {"a_B-9: \t c\td \t", "a_b-9", "c\td"}, {"-:", "-", ""}, {"_: \t ", "_", ""}, {"0::", "0", ":"}, {"x: a: b", "x", "a: b"}, {"ABCDEFGHIJKLMNOPQRSTUVWXYZ:ABC", "abcdefghijklmnopqrstuvwxyz", "ABC"}, {"e:\u00e9\xff", "e", "\u00e9\xff"}, {"k:\u00a0v\u00a0", "k", "\u00a0v\u00a0"},
	} {
		tells(t, line11+c.line+"\r\nhost: h\r\n"+c.line+"\n\n", request("PUT", "/a", 1, "", false, c.name, c.value, "host", "h", c.name, c.value))
	}
	for _, line := range []string{"a", ":", ": b", " a: b", "a : b", "a\t: b", "a b: c", "a.b: c", "\u00e9: c", "\xff: c", "\u212a: c", "a\x00: c", "a;b: c", " folded", "\t"} {
		refuses(t, line11+line+"\n", api.BadField)
		refuses(t, head11+line+"\r\n", api.BadField)
	}
	for c := range 256 {
		s := string([]byte{byte(c)})
		letter := 'a' <= c && c <= 'z' || 'A' <= c && c <= 'Z' || '0' <= c && c <= '9' || c == '-' || c == '_'
		if letter {
			tells(t, head11+"a"+s+": v\n\n", request("PUT", "/a", 1, "", false, "host", "h", "a"+strings.ToLower(s), "v"))
		} else if c != '\n' && c != ':' {
			refuses(t, head11+"a"+s+": v\n", api.BadField)
		}
		if c >= 32 && c != 127 || c == '\t' {
			tells(t, head11+"a: v"+s+"w\n\n", request("PUT", "/a", 1, "", false, "host", "h", "a", "v"+s+"w"))
		} else if c != '\n' {
			refuses(t, head11+"a: v"+s+"w\n", api.BadField)
		}
	}
}

// P16.1: what is wrong when the head ends: the host, then the coding, then the length.
func TestHeadEnd(t *testing.T) {
	const length, coding, other = "content-length: x\n", "transfer-encoding: chunked\n", "Transfer-Encoding: gzip\n"
	for _, c := range []struct {
		minor  int
		fields string
		e      api.Errno
	}{
		{1, "", api.NoHost}, {1, "host: a\nHOST: a\n", api.NoHost}, {0, "host: a\nhost: b\n", api.NoHost}, {1, "hos: a\nhost-: b\n", api.NoHost}, {1, other + length, api.NoHost}, {0, "host:\nhost:\n" + coding, api.NoHost}, {1, "host:\nhost:\nhost:\n" + length, api.NoHost},
		{1, "host:\n" + other, api.NoCoding}, {1, "host:\n" + coding + coding, api.NoCoding}, {1, "host:\n" + coding + other, api.NoCoding}, {0, "host:\n" + coding, api.NoCoding}, {0, coding, api.NoCoding}, {1, "host:\ntransfer-encoding:\n", api.NoCoding}, {1, "host:\ntransfer-encoding: gzip, chunked\n", api.NoCoding}, {1, "host:\ntransfer-encoding: chunked;\n", api.NoCoding}, {1, "host:\ntransfer-encoding: chun\u212aed\n", api.NoCoding}, {1, "host:\n" + other + length, api.NoCoding}, {0, coding + "content-length: 3\n", api.NoCoding},
		{1, "host:\n" + coding + "content-length: 3\n", api.BadLength}, {1, "host:\ncontent-length: 0\n" + coding, api.BadLength}, {1, "host:\ncontent-length: 9000\n" + coding, api.BadLength}, {1, "host:\ncontent-length: 3\ncontent-length: 3\n", api.BadLength}, {0, "content-length: 9000\nContent-Length: 9000\n", api.BadLength},
		{1, "host:\n" + length, api.BadLength}, {0, length, api.BadLength}, {0, "content-length:\n", api.BadLength}, {0, "content-length: +3\n", api.BadLength}, {0, "content-length: -3\n", api.BadLength}, {0, "content-length: 3 3\n", api.BadLength}, {0, "content-length: 3,3\n", api.BadLength}, {0, "content-length: 0x3\n", api.BadLength}, {0, "content-length: 1_0\n", api.BadLength}, {0, "content-length: 3.0\n", api.BadLength}, {0, "content-length: \u0663\n", api.BadLength}, {0, "content-length: 00000000003\n", api.BadLength}, {0, "content-length: 99999999999\n", api.BadLength}, {0, "content-length: 99999999999999999999999\n", api.BadLength},
		{1, "host:\ncontent-length: 8001\n", api.BodyLong}, {0, "content-length: 0000008001\n", api.BodyLong}, {0, "content-length: 9999999999\n", api.BodyLong}, {0, "content-length: 4294967296\n", api.BodyLong}, {0, "content-length: 4294967299\n", api.BodyLong},
	} {
		refuses(t, "PUT / HTTP/1."+strconv.Itoa(c.minor)+"\n"+c.fields+"\r\n", c.e)
	}
	tells(t, "PUT / HTTP/1.0\nhost: h\n\n", request("PUT", "/", 0, "", true, "host", "h"))
}

// Without a length, with 0 and with chunks, whatever the method; a body by its length ends at its last byte, whatever its bytes.
func TestBodies(t *testing.T) {
	for _, method := range []string{"GET", "HEAD", "PUT", "POST", "DELETE"} {
		head := method + " / HTTP/1.1\nhost: h\n"
		tells(t, head+"\n", request(method, "/", 1, "", false, "host", "h"))
		tells(t, head+"content-length: 0\n\n", request(method, "/", 1, "", false, "host", "h", "content-length", "0"))
		tells(t, head+"content-length: 0000000000\n\n", request(method, "/", 1, "", false, "host", "h", "content-length", "0000000000"))
		tells(t, head+"content-length: 0000000003\n\n\r\n\x00", request(method, "/", 1, "\r\n\x00", false, "host", "h", "content-length", "0000000003"))
		tells(t, head+"Transfer-Encoding: Chunked\n\n0\n\n", request(method, "/", 1, "", false, "host", "h", "transfer-encoding", "Chunked"))
	}
	every := ""
	for c := range 256 {
		every += string([]byte{byte(c)})
	}
	tells(t, head11+"content-length: 256\n\n"+every, request("PUT", "/a", 1, every, false, "host", "h", "content-length", "256"))
	tells(t, chunked+"100\n"+every+"\n0\n\n", request("PUT", "/a", 1, every, false, "host", "h", "transfer-encoding", "chunked"))
	tells(t, "PUT / HTTP/1.0\ncontent-length: 2\n\nab", request("PUT", "/", 0, "ab", true, "content-length", "2"))
	for s := range samples.Every("a\r\nG", 5) {
		readsAs(t, head11+"content-length: 2\r\n\r\n"+s)
	}
}

// P16.2: which field, and which value of it, ends the connection, or keeps it.
func TestClose(t *testing.T) {
	for _, c := range []struct {
		fields    string
		zero, one bool // is it the end in 1.0, in 1.1?
	}{
		{"", true, false}, {"connection: close\n", true, true}, {"Connection: CLOSE \n", true, true}, {"connection: keep-alive\n", false, false}, {"CONNECTION: Keep-Alive\n", false, false}, {"connection: close\nconnection: keep-alive\n", false, true}, {"connection: x\nconnection: y\nconnection: close\n", true, true}, {"connection: x\nconnection: keep-alive\nconnection: x\n", false, false},
		{"connection:\n", true, false}, {"connection: close, keep-alive\n", true, false}, {"connection: closed\n", true, false}, {"connection: clo\u017fe\n", true, false}, {"connection: \u212aeep-alive\n", true, false}, {"connections: close\n", true, false}, {"x: close\ny: keep-alive\n", true, false},
	} {
		for minor, want := range []bool{c.zero, c.one} {
			s := "GET / HTTP/1." + strconv.Itoa(minor) + "\nhost: h\n" + c.fields + "\n"
			r := wire.New()
			l := r.Feed(s)
			if len(l) != 1 || l[0].Close != want || r.Done() != want || r.Fault() != api.OK {
				t.Errorf("%q: %v", s, told(r, l))
			}
			readsStepwise(t, s+"GET")
			readsStepwise(t, s+"\r"+s+"BAD\n")
		}
	}
}

// P16.2: behind a request with Close, and behind what is wrong, further bytes are nothing.
func TestDone(t *testing.T) {
	last := bars("PUT / HTTP/1.1|host: h|connection: close|content-length: 1||x")
	for _, c := range []struct {
		s        string
		requests int
		fault    api.Errno
	}{{last, 1, api.OK}, {head11 + "\r\n" + last, 2, api.OK}, {"BAD\n", 0, api.BadLine}, {head11 + "\r\n" + chunked + "x\n", 1, api.BadChunk}, {head11 + "content-length: 9000\n\n", 0, api.BodyLong}} {
		for _, more := range []string{"", "\r", "\n", "GARBAGE\n", last, strings.Repeat("x", 10000)} {
			r := wire.New()
			l := r.Feed(c.s + more)
			if len(l) != c.requests || r.Fault() != c.fault || !r.Done() || r.Held() != 0 {
				t.Errorf("%q, %.20q: %v", c.s, more, told(r, l))
			}
			if l := r.Feed(more + last); len(l) != 0 || r.Fault() != c.fault || !r.Done() || r.Held() != 0 {
				t.Errorf("%q, %.20q, and more: %v", c.s, more, told(r, l))
			}
		}
	}
}

// P16.1: chunks: the form of their lines, what stands behind their bytes, and behind the last one.
func TestChunks(t *testing.T) {
	put := func(body string) api.Request {
		return request("PUT", "/a", 1, body, false, "host", "h", "transfer-encoding", "chunked")
	}
	tells(t, chunked+"3\r\nabc\r\n2;x=y\nde\n0\r\n\r\n", put("abcde"))
	tells(t, chunked+"000A;\t\"\xff\"\n0123456789\r\n0000;x\n\n", put("0123456789"))
	tells(t, chunked+"a\n0123456789\n00\n\n", put("0123456789"))
	tells(t, chunked+"1;;\n\n\n01;\n\r\n000\r\n\n", put("\n\r"))
	tells(t, chunked+"2\n\r\n\r\n1\n\r\r\n0\n\n", put("\r\n\r"))
	for _, line := range []string{"", "x", "g", "00001", "12345", " 1", "1 ", "1 ;x", "\t1", "+1", "-1", "0x1", "1_0", "1,", "1:", ";", ";1", "1;\x1f", "1;\x7f", "1;\x00", "1;\rx", "\u0661", "\xff", "3 abc"} {
		refuses(t, chunked+line+"\n", api.BadChunk)
		refuses(t, chunked+"1\na\n"+line+"\r\n", api.BadChunk)
	}
	for c := range 256 {
		s := string([]byte{byte(c)})
		if c >= 32 && c != 127 || c == '\t' {
			tells(t, chunked+"1;"+s+"\nx\n0;"+s+"\n\n", put("x"))
		} else if c != '\n' && c != '\r' {
			refuses(t, chunked+"1;"+s+"\n", api.BadChunk)
		}
		if c != '\n' && c != '\r' {
			refuses(t, chunked+"1\na"+s, api.BadChunk)
			refuses(t, chunked+"0\n"+s+"\n", api.BadChunk)
			refuses(t, chunked+"0\n"+s+"\r\n", api.BadChunk)
		}
		if c != '\n' {
			refuses(t, chunked+"1\na\r"+s, api.BadChunk)
		}
	}
	refuses(t, chunked+"0\na: b\r\n", api.BadChunk)
	for s := range samples.Every("02;\r\n ", 6) {
		readsAs(t, chunked+s)
	}
	for s := range samples.Every("1aF\r\n", 5) {
		readsAs(t, chunked+"1\nx"+s)
		readsAs(t, chunked+"1\r\nx\r\n"+s)
		readsAs(t, chunked+"1\r\nx\r\n0\r\n"+s)
	}
}

// P16.2: Held, byte by byte, in each part of a request.
func TestHeld(t *testing.T) {
	for _, c := range []struct {
		behind string
		held   int // beside the chunked head's bytes
	}{
		{"", 0}, {"2", 1}, {"2;x", 3}, {"2;x\r", 4}, {"2;x\r\n", 0}, {"2\r\na", 1}, {"2\r\nab", 2}, {"2\r\nab\r", 3}, {"2\r\nab\r\n", 2}, {"2\nab\n", 2}, {"2\nab\n1", 3}, {"2\nab\n1\r", 4}, {"2\nab\n1\n", 2}, {"2\nab\n1\n\r", 3}, {"2\nab\n1\n\r\r", 4}, {"2\nab\n0", 3}, {"2\nab\n0\n", 2}, {"2\nab\n0\n\r", 3}, {"2\nab\n0\nxyz", 5},
	} {
		waits(t, chunked+c.behind, len(chunked)+c.held)
		waits(t, "\n\r\n"+chunked+c.behind, len(chunked)+c.held)
	}
	text := head11 + "content-length: 4\r\n\r\nabc"
	for i := range len(text) + 1 {
		waits(t, text[:i], i)
		waits(t, "\n\r\n"+text[:i], i)
	}
	readsStepwise(t, chunked+"2\r\nab\r\n0\r\n\r\n"+text+"d\r\n\r"+head11+"\n\r")
}
