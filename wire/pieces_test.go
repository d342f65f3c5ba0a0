package wire_test

import (
	"math/rand"
	"slices"
	"strings"
	"testing"

	"storehouse/api"
	"storehouse/samples"
	"storehouse/wire"
)

// full has all kinds of what may come.
const full = "\r\n\nPUT /a%20?b HTTP/1.1\r\nHost: h\nX-a_9:\t v \xff\r\ntransfer-encoding: Chunked\r\n\r\n2;\tx\r\nab\r\n01\n\r\n0\r\n\r\n" +
	"\rPOST" // what is behind this is nothing

// right are several requests, the last of which is the end.
const right = "\nPUT /a HTTP/1.1\nhost: h\r\nTransfer-Encoding: chunked\n\n2;\tx\r\nab\r\n0a\n0123456789\n0\r\n\r\nGET /b HTTP/1.0\r\nConnection: Keep-Alive\r\nX_-1: \t v \xff\r\n\r\n\r\nPOST / HTTP/1.1\r\nhost:h\r\ncontent-length: 3\r\nconnection: close\r\n\r\nxyz"

// P16.3: of a text with all kinds in it, each byte changed, missing or added: the same comes byte by byte, and in one piece, and as the model says.
func TestNearlyRight(t *testing.T) {
	if got := modelOf(right); len(got.requests) != 3 || got.fault != api.OK || !got.done {
		t.Fatal(got)
	}
	if got := modelOf(full); len(got.requests) != 1 || got.fault != api.OK || got.held != 5 {
		t.Fatal(got)
	}
	readsStepwise(t, full+"\n")
	for i := range len(right) + 1 {
		readsAs(t, right[:i])
		if i < len(right) {
			readsStepwise(t, right[:i]+right[i+1:])
		}
		for c := range 256 {
			s := string([]byte{byte(c)})
			readsAs(t, right[:i], s, right[i:])
			if i < len(right) {
				readsAs(t, right[:i]+s+right[i+1:])
			}
		}
	}
}

// P16.3: in whatever two or three pieces a text comes, the same is told.
func TestTwoPieces(t *testing.T) {
	for _, s := range []string{right, full, chunked + "1\ra\n", head11 + "a : b\n\n", "GET / HTTP/1.1\r\n\r\nGET", head11 + "content-length: 9000\r\n\r\nx"} {
		for i := range len(s) + 1 {
			readsAs(t, s[:i], s[i:])
			for j := i; j <= len(s); j += 7 {
				readsAs(t, s[:i], s[i:j], "", s[j:])
			}
		}
	}
}

// P16.3: each request is told by the piece that has its last byte, and what is wrong shows behind the piece that has the byte at which it is.
func TestAtTheSameByte(t *testing.T) {
	r := rand.New(rand.NewSource(163))
	for range 3000 {
		s := ""
		for range 1 + r.Intn(4) {
			one, _ := dressed(r)
			s += one
		}
		if r.Intn(2) == 0 {
			at := r.Intn(len(s) + 1)
			s = s[:at] + pick(r, "\r", "\n", " ", "\x00", "x", ":", "1", "GARBAGE\n", "\r\n\r\n") + s[at:]
		}
		reader, come := wire.New(), ""
		var requests []api.Request
		for _, piece := range cut(r, s) {
			come += piece
			requests = append(requests, reader.Feed(piece)...)
			if got, want := told(reader, requests), modelOf(come); !got.isSame(want) {
				t.Fatalf("%q:\n%v, not\n%v", come, got, want)
			}
		}
	}
}

// P16.2: any requests, in any dress, come as they are, one behind the other, up to one with Close.
func TestDressed(t *testing.T) {
	r := rand.New(rand.NewSource(1620))
	chunks, bodies := 0, 0
	for range 10000 {
		s, all, ended := "", []api.Request(nil), false
		for range 1 + r.Intn(3) {
			one, q := dressed(r)
			s += one
			if !ended {
				all = append(all, q)
			}
			ended = ended || q.Close
			if q.Body != "" {
				bodies++
			}
			if slices.ContainsFunc(q.Fields, func(p api.Pair) bool { return p.Name == "transfer-encoding" }) {
				chunks++
			}
		}
		reader, want := wire.New(), seen{requests: all, done: ended}
		var requests []api.Request
		for _, piece := range cut(r, s) {
			requests = append(requests, reader.Feed(piece)...)
		}
		if got := told(reader, requests); !got.isSame(want) || !modelOf(s).isSame(want) {
			t.Fatalf("%q:\n%v, by the model\n%v, not\n%v", s, got, modelOf(s), want)
		}
	}
	if chunks < 1000 || bodies < 1000 {
		t.Error(chunks, "came in chunks,", bodies, "had bodies")
	}
}

// P16.1: all short texts of bytes that matter, where each kind of line is read.
func TestEvery(t *testing.T) {
	for s := range samples.Every("GT /\r\n", 6) {
		readsAs(t, s)
	}
	for s := range samples.Every("1.0\r\n ", 5) {
		readsAs(t, "GET / HTTP/"+s)
	}
	for s := range samples.Every("a:\r\n\t\x00", 6) {
		readsAs(t, "GET / HTTP/1.0\n"+s)
	}
	for s := range samples.Every("093 -\r\n", 5) {
		readsAs(t, head11+"content-length:"+s)
	}
	for _, field := range []string{"host", "transfer-encoding", "content-length", "connection"} {
		for s := range samples.Every(" a,\r\n", 4) {
			readsAs(t, "PUT / HTTP/1.1\n"+field+":"+s)
			readsAs(t, head11+field+":close"+s)
			readsAs(t, head11+field+s+":1\n\n")
			readsAs(t, head11+field+":chunked"+s+"\n\n")
		}
	}
}

// P16.1: all ways to put some fields together.
func TestEveryFields(t *testing.T) {
	fields := []string{"host: h\n", "Host:\n", "transfer-encoding: chunked\n", "transfer-encoding: gzip\n", "content-length: 1\n", "content-length: 9000\n", "content-length: x\n", "connection: close\n", "connection: keep-alive\n"}
	for _, line := range []string{"PUT / HTTP/1.1\n", "PUT / HTTP/1.0\n", "PUT / HTTP/1.2\n"} {
		for mask := range 1 << len(fields) {
			var some []string
			for i, field := range fields {
				if mask>>i&1 > 0 {
					some = append(some, field)
				}
			}
			readsAs(t, line+strings.Join(some, "")+"\n"+"1\nx\n0\n\n")
			slices.Reverse(some)
			readsAs(t, line+strings.Join(some, "")+"\r\n"+"1\nx\n0\n\n"+line)
		}
	}
}
