package json_test

import (
	stdjson "encoding/json"
	"math/rand"
	"slices"
	"strings"
	"testing"

	"storehouse/api"
	"storehouse/json"
	"storehouse/samples"
)

// each asks of a text, alone and at some places of others, what the model answers.
func each(t *testing.T, s string) {
	t.Helper()
	for _, all := range []string{s, "[" + s + "]", " [1, " + s, `{"n":` + s + `,"m":0}`} {
		parses(t, all, parsed(all))
	}
}

// P14.1: too long is told ahead of all else, at 0; 8000 bytes are not.
func TestParseLong(t *testing.T) {
	for _, c := range []struct {
		ahead, filler, behind string
		size                  int
		want                  answer
	}{
		{"", " ", "1", 8000, answer{j: num("1")}},
		{"", " ", "1", 8001, answer{e: api.ErrLong}},
		{"1", " ", "", 8001, answer{e: api.ErrLong}},
		{"", " ", "", 8000, answer{e: api.ErrJson, at: 8000}},
		{"", " ", "", 8001, answer{e: api.ErrLong}},
		{"", "1", "", 8000, answer{j: num(strings.Repeat("1", 8000))}},
		{"", "[", "", 8000, answer{e: api.ErrDeep, at: 20}},
		{"", "[", "", 8001, answer{e: api.ErrLong}},
		{"", "x", "", 8001, answer{e: api.ErrLong}},
		{"", "\xff", "", 9000, answer{e: api.ErrLong}},
		{`"`, "a", `"`, 8000, answer{j: text(strings.Repeat("a", 7998))}},
		{`"`, "a", `"`, 8001, answer{e: api.ErrLong}},
		{`"`, "a", "", 8000, answer{e: api.ErrJson, at: 8000}},
	} {
		parses(t, c.ahead+strings.Repeat(c.filler, c.size-len(c.ahead)-len(c.behind))+c.behind, c.want)
	}
}

// P14.1: at most 20 lists and objects are within one another; the 21st is told where it begins, if it can stand there.
func TestParseDeep(t *testing.T) {
	for _, open := range []string{"[", `{"":`, "[1,", `{"b":1,"a":`, `[ {"a" : `, "[[ "} {
		ahead := strings.Repeat(open, 20/(strings.Count(open, "[")+strings.Count(open, "{")))
		parses(t, ahead+"1", parsed(ahead+"1"))
		parses(t, ahead+"[", answer{e: api.ErrDeep, at: len(ahead)})
		parses(t, ahead+"{", answer{e: api.ErrDeep, at: len(ahead)})
		parses(t, ahead+" [", answer{e: api.ErrDeep, at: len(ahead) + 1})
		refuses(t, ahead+"x[", len(ahead))
		refuses(t, ahead+"1[", len(ahead)+1)
		refuses(t, ahead, len(ahead))
	}
	for depth := range 25 {
		whole := strings.Repeat("[", depth) + "1" + strings.Repeat("]", depth)
		if depth <= 20 {
			each(t, whole)
			if j, err := json.Parse(whole); err != nil || j.Kind == 0 {
				t.Error(depth, err)
			}
		} else {
			parses(t, whole, answer{e: api.ErrDeep, at: 20})
		}
	}
	side := strings.Repeat("[],", 30)
	tells(t, "["+side+"[[]]]", list(append(slices.Repeat([]api.Json{list()}, 30), list(list()))...))
	most := strings.Repeat("[", 19) + strings.Repeat("]", 19)
	parses(t, "["+most+","+most+",["+most+"]]", answer{e: api.ErrDeep, at: len("["+most+","+most+",[") + 18})
}

// P14.1: words are read byte by byte, and are no others than these.
func TestParseWords(t *testing.T) {
	for word, kind := range map[string]int{"null": api.JNull, "true": api.JTrue, "false": api.JFalse} {
		tells(t, word, api.Json{Kind: kind})
		tells(t, " "+word+"\n", api.Json{Kind: kind})
		for i := range len(word) {
			refuses(t, word[:i], i)
			refuses(t, strings.ToUpper(word[:i+1])+word[i+1:], 0)
			refuses(t, word[:i]+strings.ToUpper(word[i:]), i)
			if i > 0 {
				refuses(t, word[:i]+" "+word[i:], i)
			}
		}
		refuses(t, word+word, len(word))
		refuses(t, word+"x", len(word))
		refuses(t, word+" "+word, len(word)+1)
	}
	for _, s := range []string{"NaN", "Infinity", "undefined", "nil", "yes", "True", "'a'", "+1", ".5", "//", "\ufeff1", "\u00a01", "\x0b1", "\x0c1", "\x001"} {
		each(t, s)
	}
	refuses(t, "NaN", 0)
	refuses(t, "nil", 1)
	refuses(t, "\ufeff1", 0)
}

// P14.1: all short texts of bytes that matter: what stands between values, and around them.
func TestParseEvery(t *testing.T) {
	for s := range samples.Every(`[]{},:"1 `, 5) {
		parses(t, s, parsed(s))
	}
	for s := range samples.Every(`[],1 `, 6) {
		parses(t, s, parsed(s))
	}
	for s := range samples.Every(`{}:,"`, 7) {
		parses(t, "{"+s, parsed("{"+s))
	}
	for s := range samples.Every("[{\"\"nt1: \n\t\r", 3) {
		each(t, s)
	}
}

// P14.1: a number is as long as it can be; what stands behind it must be able to stand there. It is kept as it was written.
func TestParseNumbers(t *testing.T) {
	for s := range samples.Every("-01.eE+", 5) {
		each(t, s)
	}
	for s := range samples.Every("-0.e5", 6) {
		parses(t, s, parsed(s))
	}
	for _, s := range []string{"0", "-0", "1", "9", "10", "1234567890", "-1", "0.0", "0.10", "1.5", "1e5", "1E5", "1e+5", "1e-5", "1.5e10", "-0.0E-0", "0e0", "0E+00", "1e007", "123456789012345678901234567890.5e99999"} {
		tells(t, s, num(s))
		tells(t, "["+s+","+s+"]", list(num(s), num(s)))
		tells(t, "\r"+s+"\t", num(s))
	}
	for s, at := range map[string]int{"-": 1, "--1": 1, "-a": 1, "+1": 0, "00": 1, "-01": 2, "1.": 2, "1.e5": 2, ".1": 0, "1e": 2, "1e+": 3, "1e+-1": 3, "1ea": 2, "1.5.5": 3, "1e5.5": 3, "1e5e5": 3, "0x10": 1, "1_0": 1, "1,": 1, "1a": 1, "- 1": 1, "1 .5": 2, "\u0661": 0} {
		refuses(t, s, at)
	}
}

// P14.1: the blanks are these four, wherever blanks may be.
func TestParseBlanks(t *testing.T) {
	for c := range 256 {
		b := string([]byte{byte(c)})
		want := strings.Contains(" \t\n\r", b)
		for _, s := range []string{"~1", "1~", "[~]", "[~1]", "[1~,2]", "[1,~2]", "[1~]", "{~}", `{~"":1}`, `{""~:1}`, `{"":~1}`, `{"":1~}`, `{"":1~,"":1}`, `{"":1,~"":1}`} {
			blanked := strings.ReplaceAll(s, "~", b)
			got := parsed(blanked)
			parses(t, blanked, got)
			if want && !alike(got.j, parsed(strings.ReplaceAll(s, "~", "")).j) {
				t.Errorf("%q: %v", blanked, got)
			}
		}
	}
	tells(t, " \t\n\r[ \t\n\r] \t\n\r", list())
	refuses(t, " \t\n\r", 4)
	refuses(t, "- 1", 1)
}

// P14.1: names stand in their order, the same one twice if it is there twice.
func TestParseObjects(t *testing.T) {
	tells(t, `{}`, object())
	tells(t, `{"b":1,"a":2,"b":{"a":3},"":4}`, object("b", num("1"), "a", num("2"), "b", object("a", num("3")), "", num("4")))
	tells(t, `{"\u0061\n":"x"}`, object("a\n", text("x")))
	for s, at := range map[string]int{`{`: 1, `{,`: 1, `{1:2}`: 1, `{a:1}`: 1, `{"a"`: 4, `{"a" 1}`: 5, `{"a",1}`: 4, `{"a":`: 5, `{"a":}`: 5, `{"a":1`: 6, `{"a":1,`: 7, `{"a":1,}`: 7, `{"a":1,,`: 7, `{"a":1 "b"`: 7, `{"a":1]`: 6, `{"a"::1}`: 5, `{null:1}`: 1, `{"a`: 3, `{"a":1}}`: 7, `["a":1]`: 4} {
		refuses(t, s, at)
	}
	for s, at := range map[string]int{`[`: 1, `[,`: 1, `[1`: 2, `[1,`: 3, `[1,,`: 3, `[1,]`: 3, `[1 2`: 3, `[1}`: 2, `[]]`: 2, `]`: 0, `,`: 0, `:`: 0, `}`: 0, `[[]`: 3, `[1]1`: 3, `[1],`: 3, `[] []`: 3, `[1:`: 2} {
		refuses(t, s, at)
	}
}

// whole has something of all kinds.
const whole = ` {"a\u00e9" : [ -1.50e+3 , "\ud83d\ude00é€😀\n" ,null], "":{"b":true ,"b":[[],{}]},"c":false}` + "\t"

// P14.1: of a text with all kinds in it, each prefix, and each text in which one byte is another, is missing, or is added.
func TestParseNearlyRight(t *testing.T) {
	if got := parsed(whole); got.e != api.OK || len(got.j.Kids) != 3 {
		t.Fatal(got)
	}
	for i := range len(whole) + 1 {
		parses(t, whole[:i], parsed(whole[:i]))
		if i < len(whole) {
			less := whole[:i] + whole[i+1:]
			parses(t, less, parsed(less))
		}
		for c := range 256 {
			more := whole[:i] + string([]byte{byte(c)}) + whole[i:]
			parses(t, more, parsed(more))
			if i < len(whole) {
				other := whole[:i] + string([]byte{byte(c)}) + whole[i+1:]
				parses(t, other, parsed(other))
			}
		}
	}
}

// P14.1: any value with blanks and escapes is read; with any pieces of it changed, as the model says.
func TestParseAny(t *testing.T) {
	r := rand.New(rand.NewSource(141))
	for range 20000 {
		j := anyValue(r, 5)
		s := spaced(r, j)
		if len(s) > 8000 {
			continue
		}
		tells(t, s, j)
		for range 3 {
			from := r.Intn(len(s))
			to := min(from+r.Intn(4), len(s))
			s = s[:from] + []string{"", "[", "]", "{", "}", ",", ":", `"`, `\`, "\\u", "1", "-", " ", "\xf0", "\x80", "true"}[r.Intn(16)] + s[to:]
			if s == "" {
				break
			}
			parses(t, s, parsed(s))
		}
	}
}

// P14.1: package json takes the same texts, where they have no escapes of halves, which it takes for other characters.
func TestParseAsTheLibrary(t *testing.T) {
	for s := range samples.Every(`[]{},:"1`, 6) {
		_, err := json.Parse(s)
		if stdjson.Valid([]byte(s)) != (err == nil) {
			t.Fatalf("%q: %v", s, err)
		}
	}
	for s := range samples.Every("-01.eE+", 6) {
		_, err := json.Parse(s)
		if stdjson.Valid([]byte(s)) != (err == nil) {
			t.Fatalf("%q: %v", s, err)
		}
	}
	for s := range samples.Every("\"\\n/x\n", 5) {
		_, err := json.Parse(`"` + s)
		if stdjson.Valid([]byte(`"`+s)) != (err == nil) {
			t.Fatalf("%q: %v", s, err)
		}
	}
}
