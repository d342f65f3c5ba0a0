package wire_test

import (
	"fmt"
	"math/rand"
	"slices"
	"strings"
	"sync"
	"testing"
	"unsafe"

	"storehouse/api"
	"storehouse/wire"
)

// soup is a text of pieces that matter, and of any bytes.
func soup(r *rand.Rand, most int) string {
	var s strings.Builder
	for range r.Intn(most + 1) {
		switch r.Intn(16) {
		case 0:
			s.WriteByte(byte(r.Intn(256)))
		case 1, 2, 3:
			one, _ := dressed(r)
			s.WriteString(one)
		case 4:
			s.WriteString(pick(r, "transfer-encoding: gzip\r\n\r\n", "content-length: x\n\n", "content-length: 8001\n\n", "1f41\n", "GET / HTTP/2.0\r\n", "GET "+x(2000), strings.Repeat("a:b\n", 50), x(8000)))
		default:
			s.WriteString(pick(r, "\r", "\n", "\r\n", " ", ":", ";", "0", "1", "a", "GET", " / ", "HTTP/1.1\r\n", "HTTP/1.0\n", "host: h\r\n", "transfer-encoding: chunked\n", "content-length: 2\r\n", "connection: close\n", "connection: keep-alive\n", "0\r\n\r\n", head11, chunked, head11+"\n"))
		}
	}
	return s.String()
}

// all is what all calls of the layer answer of a text.
func all(s string) string {
	r := wire.New()
	requests := r.Feed(s)
	p := api.Pair{Name: s, Value: s}
	sent, e := wire.Encode(api.Response{Status: 200, Fields: []api.Pair{{Name: "a", Value: s}}, Body: s})
	sent2, e2 := wire.Encode(api.Response{Status: len(s), Fields: []api.Pair{p, p}, Body: s, Close: true})
	asked, e3 := wire.Ask(request("PUT", s, 1, s, false, "host", s))
	asked2, e4 := wire.Ask(api.Request{Method: s, Target: "/", Fields: []api.Pair{p}})
	asked3 := ""
	for _, q := range requests {
		q.Fields = slices.DeleteFunc(q.Fields, func(p api.Pair) bool { return p.Name == "content-length" || p.Name == "connection" })
		again, e := wire.Ask(q)
		asked3 += fmt.Sprint(again, e)
	}
	value, ok := wire.Field([]api.Pair{p}, s)
	return fmt.Sprint(told(r, requests), sent, e, sent2, e2, asked, e3, asked2, e4, asked3, value, ok)
}

// P1: every call ends, and none panics, whatever it is given.
func TestAnyArguments(t *testing.T) {
	r := rand.New(rand.NewSource(1))
	for range 20000 {
		all(soup(r, 20))
	}
	for _, s := range []string{"\r", "\n", "\r\n", " ", "x", ":", "GET ", "GET / HTTP/1.1\r\n", "a: b\n", "\x00", "\xff", "host: h\r\n\r\n", head11 + "\n", chunked + "0\n\n", "1\nx\n", ";"} {
		for _, ahead := range []string{"", "GET ", "GET / HTTP/1.1\n", head11, head11 + "content-length: 8000\n\n", chunked, chunked + "1\nx", chunked + "0\n"} {
			wire.New().Feed(ahead + strings.Repeat(s, 100000/len(s)))
		}
		all(strings.Repeat(s, 100000/len(s)))
	}
	for _, n := range []int{-1 << 63, -1, 0, 1, 1<<63 - 1} {
		wire.Encode(api.Response{Status: n})
		wire.Ask(api.Request{Minor: n})
		wire.Status(api.Errno(n))
		wire.Reason(n)
	}
}

// T5, P16.7: of any bytes come requests, and at most one fault, which is one of those that the chapter names and stays; behind it nothing comes. Each request is right, and never more is held than the limits allow.
func TestAnyBytes(t *testing.T) {
	r := rand.New(rand.NewSource(5))
	faults := map[api.Errno]int{}
	for range 20000 {
		reader := wire.New()
		var fault api.Errno
		ended := false
		for _, piece := range cut(r, soup(r, 40)) {
			requests := reader.Feed(piece)
			if ended && len(requests) > 0 || fault != api.OK && reader.Fault() != fault {
				t.Fatalf("%q: more behind the end: %v", piece, told(reader, requests))
			}
			for i, q := range requests {
				isRight(t, q)
				if q.Close && i < len(requests)-1 || q.Close && (!reader.Done() || reader.Fault() != api.OK) {
					t.Fatalf("%q: more behind the last request: %v", piece, told(reader, requests))
				}
			}
			fault, ended = reader.Fault(), reader.Done()
			if held := reader.Held(); held < 0 || held > 16200 || ended && held > 0 || fault != api.OK && !ended {
				t.Fatalf("%q: %v", piece, told(reader, requests))
			}
		}
		faults[fault]++
	}
	for e := api.BadLine; e <= api.BadVersion; e++ {
		if faults[e] == 0 {
			t.Error(e, "was never told")
		}
	}
	if faults[api.OK] == 0 || len(faults) != 12 {
		t.Error("told was", faults)
	}
}

// isRight asks that a request is within the limits, and has what a request has.
func isRight(t *testing.T, q api.Request) {
	t.Helper()
	if !methods.MatchString(q.Method) || q.Target == "" || len(q.Target) > 2000 || q.Minor != 0 && q.Minor != 1 || len(q.Fields) > 50 || len(q.Body) > 8000 {
		t.Fatalf("%q", fmt.Sprint(q))
	}
	for _, p := range q.Fields {
		if fieldForm.FindString(p.Name+":"+p.Value) == "" || p.Name != strings.ToLower(p.Name) || p.Value != strings.Trim(p.Value, " \t") {
			t.Fatalf("%q", fmt.Sprint(q))
		}
	}
}

// P2: the errors are those that the chapter names; with an error there is no text.
func TestErrors(t *testing.T) {
	if api.ErrArg != 1 || api.BadLine != 60 || api.BadVersion != 70 || api.OK != 0 {
		t.Error("the errors have other numbers")
	}
	r := rand.New(rand.NewSource(2))
	for range 3000 {
		s := soup(r, 3)
		text, e := wire.Encode(api.Response{Status: 200 + r.Intn(10), Fields: []api.Pair{{Name: s, Value: soup(r, 1)}}})
		text2, e2 := wire.Ask(request("GET", "/", r.Intn(3), s, false, "host", soup(r, 1)))
		if (e == api.OK) != (text != "") || e != api.OK && e != api.ErrArg || (e2 == api.OK) != (text2 != "") || e2 != api.OK && e2 != api.ErrArg {
			t.Fatal(text, e, text2, e2)
		}
	}
}

// lent is a text whose bytes may be changed behind it.
func lent(s string) ([]byte, string) {
	bytes := []byte(s)
	return bytes, unsafe.String(unsafe.SliceData(bytes), len(bytes))
}

// P3: nothing that is handed in is written into, nor what stands behind it.
func TestNothingIsWritten(t *testing.T) {
	bytes, text := lent(right + "behind")
	wire.New().Feed(text[:len(right)])
	if string(bytes) != right+"behind" {
		t.Errorf("the piece became %q", bytes)
	}
	for many := range 5 {
		fields := pairsOf("a", "b", "host", "h", "c", "d", "e", "f", "g", "h")
		before := slices.Clone(fields)
		wire.Encode(api.Response{Status: 200, Fields: fields[:many], Body: "x", Close: true})
		wire.Ask(api.Request{Method: "PUT", Target: "/", Minor: 1, Fields: fields[:many], Body: "x", Close: true})
		wire.Ask(api.Request{Method: "PUT", Target: "/", Fields: fields[:many], Body: "x"})
		wire.Field(fields[:many], "A")
		if !slices.Equal(fields, before) {
			t.Errorf("the fields became %q", fields)
		}
	}
}

// P3: nothing that is handed in is kept: answers, and what has come, stay, though it changes.
func TestNothingIsKept(t *testing.T) {
	for size := 1; size < 40; size++ {
		r := wire.New()
		var requests []api.Request
		for from := 0; from < len(right); from += size {
			bytes, text := lent(right[from:min(from+size, len(right))])
			requests = append(requests, r.Feed(text)...)
			clear(bytes)
		}
		if got := told(r, requests); !got.isSame(modelOf(right)) {
			t.Fatalf("in pieces of %d bytes: %v", size, got)
		}
	}
	bytes, text := lent("value")
	fields := []api.Pair{{Name: "host", Value: text}}
	sent, _ := wire.Encode(api.Response{Status: 200, Fields: fields, Body: text})
	asked, _ := wire.Ask(api.Request{Method: "PUT", Target: text, Minor: 1, Fields: fields, Body: text})
	value, ok := wire.Field(fields, "host")
	clear(bytes)
	if sent != bars("HTTP/1.1 200 OK|host: value|Content-Length: 5||value") || asked != bars("PUT value HTTP/1.1|host: value|content-length: 5||value") || value != "value" || !ok {
		t.Errorf("%q, %q, %q", sent, asked, value)
	}
}

// spoil writes over all lists of requests, and the room behind them.
func spoil(requests []api.Request) {
	for _, q := range requests {
		spoiled := q.Fields[:cap(q.Fields)]
		for i := range spoiled {
			spoiled[i] = api.Pair{Name: "spoilt", Value: "spoilt"}
		}
	}
	spoiled := requests[:cap(requests)]
	for i := range spoiled {
		spoiled[i] = api.Request{Method: "spoilt"}
	}
}

// P3: no two lists of one answer share memory, spare room too, nor do lists of two answers.
func TestAnswersAreNew(t *testing.T) {
	one := head11 + "a: b\nc: d\n\n"
	want := modelOf(strings.Repeat(one, 3)).requests
	for i := range want {
		r := wire.New()
		first, second := r.Feed(one+one+one+one[:20]), r.Feed(one[20:]+one+one+one[:30])
		spoil(first[i : i+1 : i+1])
		for j := range want {
			if j != i && !areSame(first[j], want[j]) {
				t.Errorf("two lists of one answer share memory: %v", first[j])
			}
		}
		spoil(first)
		third := r.Feed(one[30:] + one + one)
		if !slices.EqualFunc(second, want, areSame) || !slices.EqualFunc(third, want, areSame) {
			t.Errorf("the lists of two answers share memory: %v, %v", second, third)
		}
		spoil(second)
		if !slices.EqualFunc(third, want, areSame) {
			t.Errorf("the lists of two answers share memory: %v", third)
		}
	}
	for name, call := range map[string]func() string{
		"Encode": func() string { s, _ := wire.Encode(answer(200, "b", "a", "b")); return s },
		"Ask":    func() string { s, _ := wire.Ask(request("GET", "/", 0, "b", true)); return s },
		"Field":  func() string { s, _ := wire.Field(want[0].Fields, "host"); return s },
	} {
		if a, b := call(), call(); a != b || unsafe.StringData(a) == unsafe.StringData(b) {
			t.Errorf("%s: %q, %q", name, a, b)
		}
	}
}

// P4: the same arguments, the same answers, whatever was asked ahead, and whatever goes on beside; one Reader is nothing to another one.
func TestNothingElseCounts(t *testing.T) {
	r := rand.New(rand.NewSource(4))
	texts := []string{"", right, full, "BAD\n", head11 + "\n"}
	for range 500 {
		texts = append(texts, soup(r, 20))
	}
	var want []string
	for _, s := range texts {
		want = append(want, all(s))
	}
	var done sync.WaitGroup
	for from := range 8 {
		done.Go(func() {
			for n := range texts {
				i := (n*7 + from) % len(texts)
				if all(texts[i]) != want[i] {
					t.Errorf("another answer of %q", texts[i])
				}
			}
		})
	}
	done.Wait()
	a, b := wire.New(), wire.New()
	var first, second []api.Request
	for i := range max(len(right), len(full)) {
		if i < len(right) {
			first = append(first, a.Feed(right[i:i+1])...)
		}
		if i < len(full) {
			second = append(second, b.Feed(full[i:i+1])...)
		}
	}
	if got, other := told(a, first), told(b, second); !got.isSame(modelOf(right)) || !other.isSame(modelOf(full)) {
		t.Errorf("%v\n%v", got, other)
	}
}

// P5: a list of nothing may be nil or empty.
func TestOfNothing(t *testing.T) {
	for _, l := range [][]api.Pair{nil, {}} {
		encodes(t, api.Response{Status: 204, Fields: l}, "HTTP/1.1 204 No Content\r\n\r\n")
		asks(t, api.Request{Method: "GET", Target: "/", Close: true, Fields: l}, "GET / HTTP/1.0\r\n\r\n")
		if value, ok := wire.Field(l, "a"); value != "" || ok {
			t.Error(value, ok)
		}
	}
	if q := wire.New().Feed("GET / HTTP/1.0\r\n\r\n"); len(q) != 1 || len(q[0].Fields) != 0 || q[0].Body != "" {
		t.Error(q)
	}
}
