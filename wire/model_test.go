package wire_test

import (
	"fmt"
	"math/rand"
	"regexp"
	"slices"
	"strconv"
	"strings"
	"testing"

	"storehouse/api"
	"storehouse/wire"
)

// seen is all that a Reader tells of what has come.
type seen struct {
	requests []api.Request
	fault    api.Errno
	done     bool
	held     int
}

// flaw is what is wrong: where it shows, and which of those that show there is told first (the least rank).
type flaw struct {
	at, rank int
	e        api.Errno
}

// What the model looks for.
var (
	emptyLines = regexp.MustCompile(`^(\r?\n)*`)
	headEnd    = regexp.MustCompile(`\n\r?\n`)
	target     = regexp.MustCompile(`^[^ \n]* ([^ \n]*)`)
	firstForm  = regexp.MustCompile(`^([A-Z]+) ([!-~]+) HTTP/([0-9]\.[0-9])$`)
	methods    = regexp.MustCompile(`^(GET|HEAD|PUT|POST|DELETE)$`)
	fieldForm  = regexp.MustCompile(`^([A-Za-z0-9_-]+):[ \t]*([^\x00-\x08\x0a-\x1f\x7f]*)$`)
	lengthForm = regexp.MustCompile(`^[0-9]{1,10}$`)
	chunkForm  = regexp.MustCompile(`^([0-9a-fA-F]{1,4})(;[^\x00-\x08\x0a-\x1f\x7f]*)?$`)
)

// lower makes letters small, and changes nothing else.
var lower = strings.NewReplacer(strings.Split("AaBbCcDdEeFfGgHhIiJjKkLlMmNnOoPpQqRrSsTtUuVvWwXxYyZz", "")...)

// modelOf is what a Reader is to tell when all of a text has come. It goes over the whole text, message by message, and looks for all flaws of a head before it tells the first one.
func modelOf(s string) seen {
	var all seen
	for {
		s = s[len(emptyLines.FindString(s)):]
		m := message{rest: s}
		size := m.read()
		if m.flaw.e != api.OK {
			all.fault, all.done = m.flaw.e, true
			return all
		}
		if size < 0 {
			all.held = m.held
			return all
		}
		all.requests = append(all.requests, m.request)
		if m.request.Close {
			all.done = true
			return all
		}
		s = s[size:]
	}
}

// message is the one at the beginning of what is left of a text.
type message struct {
	rest    string
	request api.Request
	byName  map[string][]string
	flaw    flaw
	held    int
}

// read is how many bytes the message has; below 0, if something is wrong, or missing (then so many are held).
func (m *message) read() int {
	head, whole := m.rest, false
	if end := headEnd.FindStringIndex(m.rest); end != nil {
		head, whole = m.rest[:end[1]], true
	}
	m.readHead(head)
	if m.flaw.e != api.OK {
		return -1
	}
	if !whole {
		m.held = len(head)
		return -1
	}
	m.request.Close = len(m.with("connection", "close")) > 0
	if m.request.Minor == 0 {
		m.request.Close = len(m.with("connection", "keep-alive")) == 0
	}
	if len(m.byName["transfer-encoding"]) > 0 {
		return m.readChunks(len(head))
	}
	size := 0
	if l := m.byName["content-length"]; len(l) > 0 {
		size, _ = strconv.Atoi(l[0])
	}
	if len(m.rest) < len(head)+size {
		m.held = len(m.rest)
		return -1
	}
	m.request.Body = m.rest[len(head) : len(head)+size]
	return len(head) + size
}

// with are the values of a name that are, in small letters, the one that is asked.
func (m *message) with(name, value string) []string {
	return slices.DeleteFunc(slices.Clone(m.byName[name]), func(s string) bool { return lower.Replace(s) != value })
}

// readHead tells the request's head, or the flaw of it that shows first.
func (m *message) readHead(head string) {
	var flaws []flaw
	if len(head) > 8000 {
		flaws = append(flaws, flaw{8000, 1, api.FieldsLong})
	}
	if place := target.FindStringSubmatchIndex(head); place != nil && place[3]-place[2] > 2000 {
		flaws = append(flaws, flaw{place[2] + 2000, 2, api.TargetLong})
	}
	at := -1
	for i, line := range strings.SplitAfter(head, "\n") {
		line, ended := strings.CutSuffix(line, "\n")
		at += len(line) + 1
		if !ended {
			break
		}
		line = strings.TrimSuffix(line, "\r")
		var e api.Errno
		switch {
		case i == 0:
			e = m.first(line)
		case line == "":
			e = m.atHeadEnd()
		default:
			e = m.field(line)
		}
		if i == 51 && line != "" {
			flaws = append(flaws, flaw{at, 3, api.FieldsLong})
		}
		if e != api.OK {
			flaws = append(flaws, flaw{at, 4, e})
		}
	}
	if len(flaws) > 0 {
		m.flaw = slices.MinFunc(flaws, func(a, b flaw) int { return (a.at-b.at)*10 + a.rank - b.rank })
	}
}

func (m *message) first(line string) api.Errno {
	found := firstForm.FindStringSubmatch(line)
	switch {
	case found == nil:
		return api.BadLine
	case !methods.MatchString(found[1]):
		return api.NoMethod
	case found[3] != "1.0" && found[3] != "1.1":
		return api.BadVersion
	}
	m.request = api.Request{Method: found[1], Target: found[2], Minor: int(found[3][2] - '0')}
	return api.OK
}

func (m *message) field(line string) api.Errno {
	found := fieldForm.FindStringSubmatch(line)
	if found == nil {
		return api.BadField
	}
	name, value := lower.Replace(found[1]), strings.TrimRight(found[2], " \t")
	if m.byName == nil {
		m.byName = map[string][]string{}
	}
	m.byName[name] = append(m.byName[name], value)
	m.request.Fields = append(m.request.Fields, api.Pair{Name: name, Value: value})
	return api.OK
}

func (m *message) atHeadEnd() api.Errno {
	hosts, codings, lengths := len(m.byName["host"]), len(m.byName["transfer-encoding"]), m.byName["content-length"]
	switch {
	case hosts > 1 || hosts < m.request.Minor:
		return api.NoHost
	case codings > 0 && (codings > 1 || len(m.with("transfer-encoding", "chunked")) != 1 || m.request.Minor == 0):
		return api.NoCoding
	case len(lengths) > 0 && (codings > 0 || len(lengths) > 1 || !lengthForm.MatchString(lengths[0])):
		return api.BadLength
	case len(lengths) > 0 && strings.TrimLeft(lengths[0], "0") > "" && fmt.Sprintf("%10s", strings.TrimLeft(lengths[0], "0")) > "      8000":
		return api.BodyLong
	}
	return api.OK
}

// readChunks is read of a message whose chunks begin at a place.
func (m *message) readChunks(at int) int {
	head, last := at, false
	for {
		line, _, ended := strings.Cut(m.rest[at:], "\n")
		if len(line) > 200 {
			m.flaw = flaw{at + 200, 0, api.BadChunk}
			return -1
		}
		if !ended {
			m.held = head + len(m.request.Body) + len(line)
			return -1
		}
		at += len(line) + 1
		line = strings.TrimSuffix(line, "\r")
		found := chunkForm.FindStringSubmatch(line)
		if last && line == "" {
			return at
		}
		if last || found == nil {
			m.flaw = flaw{at - 1, 0, api.BadChunk}
			return -1
		}
		size, _ := strconv.ParseUint(found[1], 16, 16)
		if len(m.request.Body)+int(size) > 8000 {
			m.flaw = flaw{at - 1, 0, api.BodyLong}
			return -1
		}
		last = size == 0
		if at = m.readChunk(head, at, int(size)); at < 0 {
			return -1
		}
	}
}

// readChunk is the place behind a chunk of some bytes and their line end; the last one has neither.
func (m *message) readChunk(head, at, size int) int {
	if size == 0 {
		return at
	}
	rest := m.rest[at:]
	m.request.Body += rest[:min(size, len(rest))]
	rest = rest[min(size, len(rest)):]
	end := emptyLines.FindStringSubmatch(rest)[0]
	switch {
	case end != "":
		return at + size + strings.Index(end, "\n") + 1
	case rest == "" || rest == "\r":
		m.held = head + len(m.request.Body) + len(rest)
	default:
		m.flaw = flaw{at + size, 0, api.BadChunk}
		if rest[0] == '\r' {
			m.flaw.at++
		}
	}
	return -1
}

// areSame tells whether two requests are the same.
func areSame(a, b api.Request) bool {
	return a.Method == b.Method && a.Target == b.Target && a.Minor == b.Minor && slices.Equal(a.Fields, b.Fields) && a.Body == b.Body && a.Close == b.Close
}

// told is what a Reader tells behind these requests.
func told(r *wire.Reader, requests []api.Request) seen {
	return seen{requests, r.Fault(), r.Done(), r.Held()}
}

func (s seen) isSame(other seen) bool {
	return slices.EqualFunc(s.requests, other.requests, areSame) && s.fault == other.fault && s.done == other.done && s.held == other.held
}

func (s seen) String() string {
	return fmt.Sprintf("%.300q, wrong %d, done %v, held %d", fmt.Sprint(s.requests), s.fault, s.done, s.held)
}

// readsAs asks that a text, in these pieces, is read as the model reads it.
func readsAs(t *testing.T, pieces ...string) {
	t.Helper()
	r := wire.New()
	var requests []api.Request
	for _, piece := range pieces {
		requests = append(requests, r.Feed(piece)...)
	}
	all := strings.Join(pieces, "")
	if got, want := told(r, requests), modelOf(all); !got.isSame(want) {
		t.Fatalf("%.500q:\n%v, not\n%v", all, got, want)
	}
}

// readsStepwise asks it of each of the text's beginnings, the text coming byte by byte.
func readsStepwise(t *testing.T, s string) {
	t.Helper()
	r := wire.New()
	var requests []api.Request
	for i := range len(s) {
		requests = append(requests, r.Feed(s[i:i+1])...)
		if got, want := told(r, requests), modelOf(s[:i+1]); !got.isSame(want) {
			t.Fatalf("%.500q, %d bytes of it:\n%v, not\n%v", s, i+1, got, want)
		}
	}
}

// someBody is a body of at most so many bytes, of any kind.
func someBody(r *rand.Rand, most int) string {
	body := make([]byte, r.Intn(most+1))
	for i := range body {
		body[i] = "\r\n0aG\x00\xff "[r.Intn(8)]
	}
	return string(body)
}

// pick is one of some texts.
func pick(r *rand.Rand, texts ...string) string { return texts[r.Intn(len(texts))] }

// dressed is a text that tells a request, in one of the ways to tell it, and the request.
func dressed(r *rand.Rand) (string, api.Request) {
	q := api.Request{Method: pick(r, "GET", "HEAD", "PUT", "POST", "DELETE"), Target: pick(r, "/", "/a%20b?c", "*", "!~", strings.Repeat("t", 1+r.Intn(50))), Minor: r.Intn(2), Close: r.Intn(4) == 0}
	ends := func() string { return pick(r, "\n", "\r\n") }
	s := strings.Repeat(ends(), r.Intn(3)) + q.Method + " " + q.Target + " HTTP/1." + strconv.Itoa(q.Minor) + ends()
	add := func(name, value string) {
		q.Fields = append(q.Fields, api.Pair{Name: strings.ToLower(name), Value: value})
		s += name + ":" + pick(r, "", " ", "\t \t") + value + pick(r, "", " ", "\t \t") + ends()
	}
	other := func() {
		for range r.Intn(3) {
			add(pick(r, "a", "X-a_1", "9", "connection-", "-", "_"), pick(r, "", "v", "a  \t b", "\x80\xff", "close", ":", "chunked"))
		}
	}
	other()
	if q.Minor == 1 || r.Intn(2) == 0 {
		add(pick(r, "host", "Host", "HOST"), pick(r, "", "h", "h:80"))
	}
	if q.Close && q.Minor == 1 {
		add("Connection", pick(r, "close", "Close", "CLOSE"))
	} else if !q.Close && q.Minor == 0 {
		add("connection", pick(r, "keep-alive", "Keep-Alive"))
	} else if r.Intn(2) == 0 {
		add("connection", pick(r, "", "upgrade", "close, x", "keep-alive, x"))
	}
	other()
	chunks := ""
	switch r.Intn(3) {
	case 0:
		q.Body = someBody(r, 30)
		add("Content-Length", fmt.Sprintf("%0*d", 1+r.Intn(10), len(q.Body)))
	case 1:
		if q.Minor == 1 {
			add("Transfer-Encoding", pick(r, "chunked", "Chunked", "CHUNKED"))
			q.Body, chunks = someChunks(r, ends)
		}
	}
	if chunks == "" {
		chunks = q.Body
	}
	return s + ends() + chunks, q
}

// someChunks is a body, and the chunks that tell it.
func someChunks(r *rand.Rand, ends func() string) (string, string) {
	body, s := "", ""
	line := func(size int) string {
		form := pick(r, "%x", "%X", "%02x", "%03X", "%04x")
		return fmt.Sprintf(form, size) + pick(r, "", ";", ";a=\"b\";\tc \xff") + ends()
	}
	for range r.Intn(4) {
		chunk := someBody(r, 30) + "."
		body += chunk
		s += line(len(chunk)) + chunk + ends()
	}
	return body, s + line(0) + ends()
}

// cut is a text in pieces, some of them empty.
func cut(r *rand.Rand, s string) []string {
	var pieces []string
	for s != "" {
		size := min(r.Intn(1+r.Intn(40)), len(s))
		pieces = append(pieces, s[:size])
		s = s[size:]
	}
	return pieces
}
