package xml_test

import (
	"fmt"
	"slices"
	"strconv"
	"strings"
	"testing"
	"unicode/utf8"

	"storehouse/api"
	"storehouse/samples"
	"storehouse/xml"
)

// knows tells whether XML knows a character, by the chapter's list.
func knows(c int) bool {
	return slices.Contains([]int{9, 10, 13}, c) || c >= 32 && c <= 0xd7ff || c >= 0xe000 && c <= 0xfffd || c >= 0x10000 && c <= 0x10ffff
}

// inText asks what Parse answers of a text that has this in it, alone, among others, behind elements, and at the end.
func inText(t *testing.T, s string) {
	t.Helper()
	for _, all := range []string{"<a>" + s + "</a>", "<a>x" + s + "y</a>", "<a>" + s, "<a><b/>" + s + "</a>", "<a>" + s + "<b/></a>", s + "<a/>", "<a/>" + s} {
		model(t, all)
	}
}

// P15.2: each byte in a text.
func TestPlainBytes(t *testing.T) {
	for c := range 256 {
		s := string([]byte{byte(c)})
		inText(t, s)
		switch {
		case c == '<' || c == '&':
		case c < 128 && knows(c):
			tells(t, "<a>"+s+"</a>", text("a", s))
			tells(t, "<a>x"+s+"&gt;</a>", text("a", "x"+s+">"))
		default:
			refuses(t, "<a>"+s+"</a>", 3)
			refuses(t, "<a>xy"+s, 5)
		}
	}
}

// P15.2: each character, as itself, and as a number tells it, in digits or in sixteenths.
func TestPlainEachCharacter(t *testing.T) {
	for c := range 0x110000 {
		if c%97 > 0 && 0x100 < c && c < 0x10fff0 && (c < 0xd7f0 || c > 0xe010) && (c < 0xffe0 || c > 0x10010) && (c < 0xfdc0 || c > 0xfe00) {
			continue
		}
		small, capital, digits := fmt.Sprintf("<a>&#x%x;</a>", c), fmt.Sprintf("<a>&#x%06X;b</a>", c), fmt.Sprintf("<a>b&#%d;</a>", c)
		if knows(c) {
			tells(t, small, text("a", string(rune(c))))
			tells(t, capital, text("a", string(rune(c))+"b"))
			tells(t, digits, text("a", "b"+string(rune(c))))
			if c != '<' && c != '&' {
				tells(t, "<a>"+string(rune(c))+"</a>", text("a", string(rune(c))))
			}
			continue
		}
		refuses(t, small, 3)
		refuses(t, capital, 3)
		refuses(t, digits, 4)
		if utf8.ValidRune(rune(c)) {
			refuses(t, "<a>x"+string(rune(c))+"</a>", 4)
			refuses(t, "<a>x"+string(rune(c)), 4)
		}
	}
}

// P15.2: characters are whole, in their shortest form, none from D800 to DFFF, none beyond 10FFFF; what is none is told at its first byte.
func TestPlainWrongCharacters(t *testing.T) {
	for _, s := range []string{"\x80", "\xbf", "\xc0\x80", "\xc1\xbf", "\xc2", "\xc2a", "\xe0\x80\x80", "\xe0\x9f\xbf", "\xe2\x82", "\xe2\x82a", "\xe2a", "\xed\xa0\x80", "\xed\xbf\xbf", "\xed\xa0\xbd\xed\xb8\x80", "\xef\xbf\xbe", "\xef\xbf\xbf", "\xf0\x80\x80\x80", "\xf0\x8f\xbf\xbf", "\xf0\x9f\x98", "\xf0\x9f\x98a", "\xf4\x90\x80\x80", "\xf5\x80\x80\x80", "\xf8\x88\x80\x80\x80", "\xfe", "\xff"} {
		refuses(t, "<a>"+s+"</a>", 3)
		refuses(t, "<a>é"+s+"é</a>", 5)
		refuses(t, "<a>"+s, 3)
		inText(t, s)
	}
	for _, s := range []string{"\u0080", "\u07ff", "\u0800", "\ud7ff", "\ue000", "\ufeff", "\ufffd", "\ufdd0", "\U00010000", "\U0001ffff", "\U0010ffff", "\x7f", "\u0085", "\u2028", "\u00a0"} {
		tells(t, "<a>"+s+"</a>", text("a", s))
		inText(t, s)
	}
	for s := range samples.Every("\x7f\x80\x8f\x90\x9f\xa0\xbd\xbe\xbf\xc1\xc2\xe0\xed\xef\xf0\xf4", 4) {
		e, err := xml.Parse("<a>" + s + "</a>")
		got := answerOf(t, e, err)
		isRight := utf8.ValidString(s) && !strings.ContainsFunc(s, func(c rune) bool { return !knows(int(c)) })
		if isRight != (got.code == api.OK) || isRight && e.Text != s || !isRight && !utf8.ValidString(s[:got.at-3]) {
			t.Fatalf("%q: %v", s, got)
		}
	}
}

// P15.2: the five names behind `&`, whole and with a `;`, are characters, and no others.
func TestPlainNames(t *testing.T) {
	for name, c := range map[string]string{"amp": "&", "lt": "<", "gt": ">", "quot": `"`, "apos": "'"} {
		form := "&" + name + ";"
		tells(t, "<a>"+form+"</a>", text("a", c))
		tells(t, "<a>x"+form+form+"y</a>", text("a", "x"+c+c+"y"))
		tells(t, "<a>"+form+name+";</a>", text("a", c+name+";"))
		for i := range len(form) {
			refuses(t, "<a>x"+form[:i], 4+i)
			if i > 0 {
				refuses(t, "<a>x"+form[:i]+"</a>", 4)
				refuses(t, "<a>x"+form[:i]+" "+form[i:], 4)
				refuses(t, "<a>x"+form[:i]+form[i+1:]+"</a>", 4)
			}
			for b := range 256 {
				inText(t, form[:i]+string([]byte{byte(b)})+form[i+1:])
				inText(t, form[:i]+string([]byte{byte(b)}))
			}
		}
		refuses(t, "<a>&"+strings.ToUpper(name)+";</a>", 3)
		refuses(t, "<a>&"+name+"x;</a>", 3)
	}
	for _, s := range []string{"&;", "& ", "&&", "&<", "&nbsp;", "&a;", "&ap;", "&am;", "&amp", "&q;", "&;amp;", "&lt</a>", "&\x00", "&\xff", "&é;"} {
		inText(t, s)
	}
	refuses(t, "<a>&", 4)
	refuses(t, "<a>&a", 5)
	refuses(t, "<a>&b", 3)
	refuses(t, "<a>&ampx", 3)
	refuses(t, "<a>&amp</a>", 3)
	refuses(t, "<a>&l&lt;</a>", 3)
}

// P15.2: a number has one to seven digits, or one to six sixteenths behind a small x, and tells a character that XML knows.
func TestPlainNumbers(t *testing.T) {
	for s, want := range map[string]string{
		"&#9;": "\t", "&#10;": "\n", "&#13;": "\r", "&#32;": " ", "&#65;": "A", "&#0000065;": "A", "&#1114111;": "\U0010ffff", "&#65533;": "\ufffd", "&#x9;": "\t", "&#x41;": "A", "&#x000041;": "A", "&#xe9;": "é", "&#xE9;": "é", "&#x1F600;": "😀", "&#x1f600;": "😀", "&#x10FFFF;": "\U0010ffff", "&#x10fFfF;": "\U0010ffff", "&#38;lt;": "&lt;", "&#60;": "<",
	} {
		tells(t, "<a>"+s+"</a>", text("a", want))
		inText(t, s)
	}
	for _, s := range []string{
		"&#;", "&#x;", "&#0;", "&#8;", "&#11;", "&#31;", "&#x0;", "&#x1f;", "&#55296;", "&#57343;", "&#65534;", "&#65535;", "&#xfffe;", "&#xffff;", "&#xd800;", "&#xdfff;", "&#1114112;", "&#x110000;", "&#9999999;", "&#xffffff;",
		"&#00000065;", "&#x0000041;", "&#X41;", "&#-65;", "&#+65;", "&# 65;", "&#65 ;", "&#6_5;", "&#6a;", "&#xg;", "&#x4G;", "&#x 41;", "&#0x41;", "&#x-1;", "&#x41", "&#65", "&#x41x", "&#65.0;", "&#\u0661;", "&##65;", "&#x#41;", "&#xx41;", "&x41;", "&65;",
	} {
		refuses(t, "<a>xy"+s+"</a>", 5)
		inText(t, s)
	}
	for s, at := range map[string]int{
		"&#": 5, "&#6": 6, "&#65": 7, "&#9999999": 12, "&#00000065": 3, "&#99999999": 3, "&#0": 6, "&#0;": 3, "&#x": 6, "&#x4": 7, "&#xffffff": 12, "&#x0000041": 3, "&#xfffffff": 3, "&#xg": 3, "&#g": 3, "&#X": 3, "&#x0": 7, "&#x0;": 3, "&#xd800": 10, "&#1114112": 12, "&#1114112;": 3,
	} {
		refuses(t, "<a>"+s, at)
		inText(t, s)
	}
	for c := range 256 {
		for i := range 3 {
			for _, ahead := range []string{"&#", "&#x"} {
				digits := []byte("119")
				digits[i] = byte(c)
				inText(t, ahead+string(digits)+";")
				inText(t, ahead+string(digits))
			}
		}
	}
	for s := range samples.Every("&#x;19aF", 5) {
		inText(t, "&"+s)
		inText(t, "&#"+s)
	}
	for n := range 20000 {
		if s := strconv.Itoa(n); knows(n) {
			tells(t, "<a>&#"+s+";</a>", text("a", string(rune(n))))
		} else {
			refuses(t, "<a>&#"+s+";</a>", 3)
		}
	}
}

// P15.2: of two things that are wrong the first is told.
func TestPlainFirst(t *testing.T) {
	refuses(t, "<a>&q;\x00", 3)
	refuses(t, "<a>\x00&q;", 3)
	refuses(t, "<a>x\xff<b/>", 4)
	refuses(t, "<a>x<b/>\xff", 4)
	refuses(t, "<a>x&#0;<b/>", 4)
	refuses(t, "<a><b/>x&q;", 7)
	refuses(t, "<a>\x00</b>", 3)
	refuses(t, "<a></b>\x00", 5)
}
