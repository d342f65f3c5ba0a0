package json_test

import (
	"fmt"
	"strings"
	"testing"
	"unicode/utf8"

	"storehouse/api"
	"storehouse/json"
	"storehouse/samples"
)

// inText asks what Parse answers of a text that has this in it, as a value, as a name, and deep within.
func inText(t *testing.T, s string) {
	t.Helper()
	for _, all := range []string{`"` + s + `"`, `"a` + s + `b"`, `{"` + s + `":"` + s + `"}`, `["", "` + s + `"]`, `"` + s} {
		parses(t, all, parsed(all))
	}
}

// P14.1: each byte alone in a text: below 32 it can't stand there, from 128 on it is no character.
func TestQuotedEachByte(t *testing.T) {
	for c := range 256 {
		s := string([]byte{byte(c)})
		inText(t, s)
		switch {
		case c == '"':
			tells(t, `"`+s, text(""))
		case c == '\\':
			refuses(t, `"ab\`, 4)
			tells(t, `"ab\""`, text(`ab"`))
		case c < 32 || c > 127:
			refuses(t, `"ab`+s+`"`, 3)
			refuses(t, `"ab`+s, 3)
			refuses(t, `{"ab`+s+`":1}`, 4)
		default:
			tells(t, `"ab`+s+`"`, text("ab"+s))
			refuses(t, `"ab`+s, 4)
		}
	}
}

// P14.1: each byte behind a backslash: eight are escapes, and u begins one.
func TestQuotedEachEscape(t *testing.T) {
	told := map[byte]string{'"': `"`, '\\': `\`, '/': "/", 'b': "\b", 'f': "\f", 'n': "\n", 'r': "\r", 't': "\t"}
	for c := range 256 {
		s := `"a\` + string([]byte{byte(c)})
		want, ok := told[byte(c)]
		switch {
		case ok:
			tells(t, s+`"`, text("a"+want))
			tells(t, s+s[2:]+`"`, text("a"+want+want))
			refuses(t, s, 4)
		case c == 'u':
			refuses(t, s, 4)
			refuses(t, s+`"`, 2)
		default:
			refuses(t, s+`"`, 2)
			refuses(t, s, 2)
		}
	}
	refuses(t, `"`, 1)
	refuses(t, `"\`, 2)
	refuses(t, `"\"`, 3)
	refuses(t, `"a`, 2)
}

// P14.1: each number of four sixteenths, small and capital: a character, or a half, which is none alone.
func TestQuotedEachUnit(t *testing.T) {
	for c := range 0x10000 {
		small, capital := fmt.Sprintf(`"\u%04x"`, c), fmt.Sprintf(`"x\u%04X"`, c)
		if 0xd800 <= c && c <= 0xdfff {
			refuses(t, small, 1)
			refuses(t, capital, 2)
		} else {
			tells(t, small, text(string(rune(c))))
			tells(t, capital, text("x"+string(rune(c))))
		}
	}
	tells(t, `"\uAbCd\u00e9\u00E9"`, text("\uabcd\u00e9\u00e9"))
	for c := range 256 {
		for i := range 4 {
			four := []byte("12aF")
			four[i] = byte(c)
			inText(t, `\u`+string(four))
			inText(t, `\ud83d\u`+string(four))
		}
	}
}

// P14.1: two halves, the first and the second one, are one character; any other two are none, at the first backslash.
func TestQuotedHalves(t *testing.T) {
	units := []int{0, 0x41, 0xd7ff, 0xd800, 0xd801, 0xd83d, 0xda55, 0xdbff, 0xdc00, 0xdc01, 0xde00, 0xdfff, 0xe000, 0xffff}
	for _, a := range units {
		for _, b := range units {
			both := fmt.Sprintf(`\u%04x\u%04X`, a, b)
			inText(t, both)
			if 0xd800 <= a && a < 0xdc00 && 0xdc00 <= b && b < 0xe000 {
				tells(t, `"`+both+`"`, text(string(rune(0x10000+(a-0xd800)*0x400+b-0xdc00))))
			}
			for _, c := range units {
				inText(t, both+fmt.Sprintf(`\u%04x`, c))
			}
		}
	}
	for s, at := range map[string]int{`"\ud83dx\ude00"`: 1, `"\ud83d\n"`: 1, `"\ud83d\n`: 1, `"\ud83d\\ude00"`: 1, `"\ud83d\ud83d\ude00"`: 1, `"\ude00\ud83d"`: 1, `"a\u0041\ud83d\u0041"`: 8, `"\ud83d\uzzzz"`: 1, `"\ud83d\x"`: 1, `"\ud83d ude00"`: 1, `"\ud83d` + "\U0001f600\"": 1, `"\ud83d\ude00\ude00"`: 13, `"\ud83d\U0001"`: 1, "\"\\ud83d\x01": 1, "\"\\ud83d\xff": 1} {
		refuses(t, s, at)
	}
}

// P14.1: an escape that is cut off, because the text ends, is told at the length; one that is none already, at its backslash.
func TestQuotedEnds(t *testing.T) {
	for _, s := range []string{`"\u0041`, `"\ud83d\ude00`, `"\n`, `"a\"`, `"\uD83D\uDE00\u12`, `{"\ud83d\ude00`} {
		for i := 1; i <= len(s); i++ {
			refuses(t, s[:i], i)
		}
	}
	for s, at := range map[string]int{`"\u`: 3, `"\u1`: 4, `"\u12`: 5, `"\u123`: 6, `"\ud8`: 5, `"\udc0`: 6, `"\udc00`: 1, `"\ud83d`: 7, `"\ud83d\`: 8, `"\ud83d\u`: 9, `"\ud83d\u1`: 10, `"\ud83d\ude0`: 12, `"\ud83d\u0041`: 1, `"\ug`: 1, `"\u12g`: 1, `"\u12"`: 1, `"\ud83d\ug`: 1, `"\ud83d\x`: 1, `"\x`: 1} {
		refuses(t, s, at)
	}
	for s := range samples.Every(`\ud8cg"`, 6) {
		parses(t, `"`+s, parsed(`"`+s))
	}
	for s := range samples.Every(`\udD8c0`, 5) {
		parses(t, `"\ud83d`+s, parsed(`"\ud83d`+s))
		parses(t, `"\uD83`+s+`"`, parsed(`"\uD83`+s+`"`))
	}
}

// P14.1: characters are whole, in their shortest form, none from D800 to DFFF, none beyond 10FFFF; what is none is told at its first byte.
func TestQuotedCharacters(t *testing.T) {
	for _, s := range []string{"\u0080", "\u07ff", "\u0800", "\ud7ff", "\ue000", "\ufffd", "\ufffe", "\uffff", "\U00010000", "\U0010ffff", "\u2028", "\ufeff", "\x7f"} {
		tells(t, `"`+s+`"`, text(s))
		tells(t, `{"`+s+s+`":"`+s+`a"}`, object(s+s, text(s+"a")))
	}
	for _, s := range []string{"\x80", "\xbf", "\xc0\x80", "\xc1\xbf", "\xc2", "\xc2a", "\xe0\x80\x80", "\xe0\x9f\xbf", "\xe2\x82", "\xe2\x82a", "\xe2a", "\xed\xa0\x80", "\xed\xbf\xbf", "\xed\xa0\xbd\xed\xb8\x80", "\xf0\x80\x80\x80", "\xf0\x8f\xbf\xbf", "\xf0\x9f\x98", "\xf0\x9f\x98a", "\xf4\x90\x80\x80", "\xf5\x80\x80\x80", "\xf8\x88\x80\x80\x80", "\xfe", "\xff"} {
		refuses(t, `"`+s+`"`, 1)
		refuses(t, `"é`+s+`é"`, 3)
		refuses(t, `{"é`+s+`":1}`, 4)
		refuses(t, `"`+s, 1)
	}
	for s := range samples.Every("\x7f\x80\x8f\x90\x9f\xa0\xbf\xc1\xc2\xe0\xed\xef\xf0\xf4\xf5", 4) {
		all := `"` + s + `"`
		j, err := json.Parse(all)
		got := answerOf(t, j, err)
		if utf8.ValidString(s) != (got.e == api.OK) || got.at != parsed(all).at || got.j.Text != parsed(all).j.Text {
			t.Fatalf("%q: %v", s, got)
		}
	}
	refuses(t, "\u00e9", 0)
	refuses(t, "[\xff]", 1)
	refuses(t, "1\xff", 1)
}

// P14.1: of two things that are wrong the first is told.
func TestQuotedFirst(t *testing.T) {
	refuses(t, `"\x`+"\x01", 1)
	refuses(t, "\"\x01\\x", 1)
	refuses(t, "\"\xff\\x", 1)
	refuses(t, "\"a\x1f\xff\"", 2)
	refuses(t, `["\x", 01`, 2)
	refuses(t, `[01, "\x"`, 2)
	refuses(t, `["\ud83d\x"]`, 2)
	refuses(t, `"`+strings.Repeat("é", 100)+"\xc3\"", 201)
}
