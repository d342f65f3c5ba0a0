package uri_test

import (
	"fmt"
	"math/rand"
	"net/url"
	"regexp"
	"slices"
	"strings"

	"storehouse/api"
)

// What the model looks for: escapes, right and wrong; bytes that no target has; what a bucket's name is, and what it has not.
var (
	escapes   = regexp.MustCompile("%([0-9A-Fa-f]{2})?")
	strange   = regexp.MustCompile(`[^\x21-\x7e]|#`)
	rightName = regexp.MustCompile(`^[a-z0-9][a-z0-9.-]{1,61}[a-z0-9]$`)
	wrongName = regexp.MustCompile(`\.\.|-\.|\.-|^[0-9]+\.[0-9]+\.[0-9]+\.[0-9]+$`)
)

// plain are the bytes that need no escape.
const plain = "ABCDEFGHIJKLMNOPQRSTUVWXYZabcdefghijklmnopqrstuvwxyz0123456789-._~"

// encoded is what Encode is to answer, byte by byte.
func encoded(s string, slash bool) string {
	text := ""
	for _, c := range []byte(s) {
		if strings.Contains(plain, string(rune(c))) || c == '/' && !slash {
			text += string(rune(c))
		} else {
			text += fmt.Sprintf("%%%02X", c)
		}
	}
	return text
}

// badEscape is the place of the first escape that is none, or -1.
func badEscape(s string) int {
	for _, found := range escapes.FindAllStringIndex(s, -1) {
		if found[1]-found[0] == 1 {
			return found[0]
		}
	}
	return -1
}

// decoded is what package url reads of a text whose escapes are right.
func decoded(s string) string {
	text, err := url.PathUnescape(s)
	if err != nil {
		panic(err)
	}
	return text
}

// request is all that Target answers.
type request struct {
	path  string
	query []api.Pair
	e     api.Errno
	at    int
}

// target is what Target is to answer. A sixteenth ends no part, so an escape that goes on beyond its part is wrong wherever parts end.
func target(s string) request {
	if s == "" || s[0] != '/' {
		return request{e: api.ErrTarget}
	}
	if found := strange.FindStringIndex(s); found != nil {
		return request{e: api.ErrTarget, at: found[0]}
	}
	if at := badEscape(s); at >= 0 {
		return request{e: api.ErrEscape, at: at}
	}
	path, query, _ := strings.Cut(s, "?")
	want := request{path: decoded(path)}
	for _, part := range strings.Split(query, "&") {
		if part != "" {
			name, value, _ := strings.Cut(part, "=")
			want.query = append(want.query, api.Pair{Name: decoded(name), Value: decoded(value)})
		}
	}
	return want
}

// canon is what Canon is to answer; no name in escapes has a byte 0, so one sets each name ahead of those that go on.
func canon(l []api.Pair) string {
	var texts []string
	for _, p := range l {
		texts = append(texts, encoded(p.Name, true)+"\x00"+encoded(p.Value, true))
	}
	slices.Sort(texts)
	return strings.ReplaceAll(strings.Join(texts, "&"), "\x00", "=")
}

// split is what Split is to answer.
func split(path string) (string, string) {
	parts := append(strings.SplitN(path, "/", 3), "", "")
	if path == "" || parts[0] != "" {
		return "", ""
	}
	return parts[1], parts[2]
}

// bucket is what Bucket is to answer.
func bucket(s string) bool {
	return rightName.MatchString(s) && !wrongName.MatchString(s)
}

// anyText is a text of some bytes, many of which have a meaning in targets.
func anyText(r *rand.Rand, most int) string {
	text := make([]byte, r.Intn(most+1))
	for i := range text {
		text[i] = byte(r.Intn(256))
		if r.Intn(2) == 0 {
			text[i] = "/?&=%+# aA0~.-\x00\x7f\x80\xff"[r.Intn(18)]
		}
	}
	return string(text)
}

// anyPairs are some pairs; of some of them the names are the same, of some the values, too.
func anyPairs(r *rand.Rand, most int) []api.Pair {
	var all []api.Pair
	for range r.Intn(most + 1) {
		p := api.Pair{Name: anyText(r, 4), Value: anyText(r, 4)}
		if len(all) > 0 && r.Intn(3) == 0 {
			p.Name = all[r.Intn(len(all))].Name
		}
		if len(all) > 0 && r.Intn(5) == 0 {
			p = all[r.Intn(len(all))]
		}
		all = append(all, p)
	}
	return all
}
