package wire_test

import (
	"math/rand"
	"strconv"
	"strings"
	"testing"

	"storehouse/api"
	"storehouse/wire"
)

func x(size int) string { return strings.Repeat("x", size) }

// sized is a head of so many bytes, its fields in several lines.
func sized(size int, end string) string {
	s := "GET / HTTP/1.1\r\nhost: h\r\n" + strings.Repeat("b: "+x(994)+"\r\n", 7)
	return s + "a: " + x(size-len(s)-len("a: \n"+end)) + "\n" + end
}

// P16.1: FieldsLong at the first byte beyond 8000 of the head, and not ahead of it, whatever the byte is; empty lines ahead do not count.
func TestHeadLimit(t *testing.T) {
	for _, end := range []string{"\n", "\r\n"} {
		for size := 7998; size <= 8000; size++ {
			s := sized(size, end)
			if l := wire.New().Feed("\r\n\n" + s); len(s) != size || len(l) != 1 {
				t.Fatal(len(s), "bytes of a head:", len(l))
			}
			readsAs(t, s)
			readsAs(t, strings.Repeat("\r\n", 5000)+s)
			readsAs(t, s, s, "G")
		}
		for size := 8001; size <= 8003; size++ {
			refuses(t, sized(size, end)[:8001], api.FieldsLong)
			refuses(t, "\n\r\n"+sized(size, end)[:8001], api.FieldsLong)
		}
	}
	for c := range 256 {
		s := string([]byte{byte(c)})
		refuses(t, x(8000)+s, api.FieldsLong)
		refuses(t, "\r"+x(7999)+s, api.FieldsLong)
		refuses(t, head11+"a: "+x(8000-len(head11)-3)+s, api.FieldsLong)
		refuses(t, "GET / "+x(7994)+s, api.FieldsLong)
	}
	waits(t, x(8000), 8000)
	refuses(t, x(7999)+"\n", api.BadLine)
	refuses(t, head11+x(7999-len(head11))+"\n", api.BadField)
	refuses(t, strings.Replace(sized(8000, "\n"), "host", "hosu", 1), api.NoHost)
}

// P16.1: TargetLong at the byte beyond 2000 behind the first blank, up to the next one; of a line without one up to its line feed.
func TestTargetLimit(t *testing.T) {
	tells(t, "GET "+x(2000)+" HTTP/1.1\r\nhost: h\n\n", request("GET", x(2000), 1, "", false, "host", "h"))
	refuses(t, "GET "+x(2001), api.TargetLong)
	refuses(t, "GET "+x(2000)+"\r", api.TargetLong)
	refuses(t, "GET "+x(2000)+"\n", api.BadLine)
	refuses(t, "GET "+x(1999)+"\r\n", api.BadLine)
	refuses(t, "GET "+x(1999)+"\rx", api.TargetLong)
	refuses(t, "GET "+x(2000)+" "+x(2001)+"\n", api.BadLine)
	refuses(t, "GET  "+x(2001)+"\n", api.BadLine)
	refuses(t, " "+x(2001), api.TargetLong)
	refuses(t, "\r "+x(2001), api.TargetLong)
	refuses(t, "\n\r\n "+x(2001), api.TargetLong)
	refuses(t, x(3000)+" "+x(2001), api.TargetLong)
	refuses(t, x(5998)+" "+x(2001), api.TargetLong)
	refuses(t, x(5999)+" "+x(2001), api.FieldsLong)
	refuses(t, x(6000)+" "+x(2000), api.FieldsLong)
	refuses(t, x(8000)+" ", api.FieldsLong)
	refuses(t, "GET / "+x(7994)+" ", api.FieldsLong)
	refuses(t, "bad\x00method "+x(2001), api.TargetLong)
	for c := range 256 {
		if s := string([]byte{byte(c)}); c != ' ' && c != '\n' {
			refuses(t, "GET "+x(2000)+s, api.TargetLong)
			refuses(t, "GET "+x(1000)+s+x(1000), api.TargetLong)
		} else {
			readsAs(t, "GET "+x(2000)+s+"HTTP/1.1\nhost:\n\n")
			readsAs(t, "GET "+x(1000)+s+x(1000))
			readsAs(t, "GET "+x(1000)+s+x(2001))
		}
	}
	get := "GET " + x(2000) + " HTTP/1.1\nhost: h\n\n"
	readsAs(t, get+get+"GET "+x(2000))
	readsAs(t, get+get+"GET "+x(2001))
}

// P16.1: FieldsLong when the line of the 51st field ends, ahead of what is wrong with that line; the 50th is one of many.
func TestFieldsLimit(t *testing.T) {
	many := line11 + "host:h\r\n" + strings.Repeat("a:b\r\n", 49)
	want := request("PUT", "/a", 1, "", false, "host", "h")
	for range 49 {
		want.Fields = append(want.Fields, api.Pair{Name: "a", Value: "b"})
	}
	tells(t, many+"\n", want)
	tells(t, many+"\r\n", want)
	for _, line := range []string{"c:d\r\n", "c:d\n", "bad\n", "bad\r\n", "\r\r\n", " \n", "\x00\n"} {
		refuses(t, many+line, api.FieldsLong)
	}
	refuses(t, many[:len(many)-len("a:b\r\n")]+"bad\n", api.BadField)
	refuses(t, strings.Replace(many, "host", "hosu", 1)+"c:d\n", api.FieldsLong)
	readsAs(t, many+"\n"+many+"\n"+many+"c")
	readsAs(t, many+"\n"+many+"\n"+many+"c:d\n")
	long := line11 + "host:" + x(8000-len(line11)-len("host:")-50*4-1) + "\n" + strings.Repeat("a:b\n", 49)
	refuses(t, long+"c:d"+"\n", api.FieldsLong)
	waits(t, long+"c:d", 7999)
}

// P16.1: a body may have 8000 bytes, by its length and in chunks; the chunk's line with which there would be more is wrong.
func TestBodyLimit(t *testing.T) {
	body := x(8000)
	tells(t, head11+"content-length: 8000\n\n"+body, request("PUT", "/a", 1, body, false, "host", "h", "content-length", "8000"))
	tells(t, head11+"content-length: 0000008000\n\n"+body, request("PUT", "/a", 1, body, false, "host", "h", "content-length", "0000008000"))
	refuses(t, head11+"content-length: 8001\r\n\r\n", api.BodyLong)
	put := request("PUT", "/a", 1, body, false, "host", "h", "transfer-encoding", "chunked")
	tells(t, chunked+"1f40\n"+body+"\n0\n\n", put)
	tells(t, chunked+"1f3f\r\n"+body[:7999]+"\r\n1\nx\n0\n\n", put)
	tells(t, chunked+strings.Repeat("1\nx\n", 8000)+"0\n\n", put)
	refuses(t, chunked+"1f41\n", api.BodyLong)
	refuses(t, chunked+"1f41;x\r\n", api.BodyLong)
	refuses(t, chunked+"ffff\n", api.BodyLong)
	refuses(t, chunked+"FFFFF\n", api.BadChunk)
	refuses(t, chunked+"1f41 \n", api.BadChunk)
	refuses(t, chunked+"1f40\n"+body+"\n1\n", api.BodyLong)
	refuses(t, chunked+"1f40\n"+body+"\n0001;"+x(100)+"\r\n", api.BodyLong)
	refuses(t, chunked+"1f40\n"+body+"\n1x\n", api.BadChunk)
	refuses(t, chunked+"1f3f\n"+body[:7999]+"\n2\n", api.BodyLong)
	refuses(t, chunked+"1f40\n"+body+"x", api.BadChunk)
	refuses(t, chunked+strings.Repeat("1\nx\n", 8000)+"1\n", api.BodyLong)
	for size := 1; size <= 8000; size += 1 + size/7 {
		tells(t, chunked+strconv.FormatInt(int64(size), 16)+"\n"+body[:size]+"\n0\n\n", request("PUT", "/a", 1, body[:size], false, "host", "h", "transfer-encoding", "chunked"))
	}
}

// P16.1: the line of a chunk, and the one behind the last chunk, may have 200 bytes ahead of the line feed, the carriage return is one of them.
func TestChunkLineLimit(t *testing.T) {
	put := request("PUT", "/a", 1, "ab", false, "host", "h", "transfer-encoding", "chunked")
	for _, ahead := range []string{chunked, chunked + "1\r\na\r\n"} {
		refuses(t, ahead+"1;"+x(199), api.BadChunk)
		refuses(t, ahead+"1;"+x(198)+"\r", api.BadChunk)
		refuses(t, ahead+"1;"+x(196)+"\r\r\r", api.BadChunk)
		refuses(t, ahead+x(201), api.BadChunk)
		refuses(t, ahead+x(200)+"\n", api.BadChunk)
		refuses(t, ahead+"0\n"+x(201), api.BadChunk)
		refuses(t, ahead+"0\n"+x(200)+"\n", api.BadChunk)
		refuses(t, ahead+"0\n\r"+x(200), api.BadChunk)
		refuses(t, ahead+"ffff;"+x(195)+"\n", api.BodyLong)
		refuses(t, ahead+"ffff;"+x(196), api.BadChunk)
	}
	tells(t, chunked+"1;"+x(198)+"\na\n1;"+x(197)+"\r\nb\r\n0;"+x(197)+"\r\n\r\n", put)
	tells(t, chunked+"2;"+x(198)+"\nab\n0;"+x(198)+"\n\n", put)
	waits(t, chunked+"1;"+x(198), len(chunked)+200)
	waits(t, chunked+"1;"+x(197)+"\r", len(chunked)+200)
	waits(t, chunked+"0\n"+x(200), len(chunked)+200)
}

// P16.2: never is more held than 8000, 8000 and 200 bytes, and so many may be.
func TestMostHeld(t *testing.T) {
	s := head11 + "transfer-encoding: chunked\n" + "a: "
	s += x(8000-len(s)-2) + "\n\n1f40\n" + x(8000) + "\n0;" + x(198)
	waits(t, s, 16200)
	refuses(t, s+"x", api.BadChunk)
	readsAs(t, s+"\n\n"+s)
	r := rand.New(rand.NewSource(162))
	for range 300 {
		reader := wire.New()
		for range 40 {
			reader.Feed(pick(r, head11, chunked, "1f40\r\n", x(8000), x(2000), "\n", "\r\n", "1;"+x(190), "a: "+x(7000), "content-length: 8000\n", "\n\n", "0\n\n"))
			if held := reader.Held(); held < 0 || held > 16200 || reader.Done() && held > 0 {
				t.Fatal(held, "bytes are held")
			}
		}
	}
}
