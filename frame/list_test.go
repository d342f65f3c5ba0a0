package frame_test

import (
	"encoding/binary"
	"errors"
	"math"
	"math/rand"
	"slices"
	"strings"
	"testing"

	"storehouse/api"
	"storehouse/frame"
	"storehouse/samples"
)

// is asks that an error is a fault of this number and place that came from nothing; of OK, that it is none.
func is(t *testing.T, what string, err error, code api.Errno, at int) {
	t.Helper()
	if code == api.OK {
		if err != nil {
			t.Errorf("%s: %v", what, err)
		}
		return
	}
	if f, ok := err.(*api.Fault); !ok || *f != (api.Fault{Code: code, At: at}) || !errors.Is(err, code) {
		t.Errorf("%s: %v, not %v at %d", what, err, code, at)
	}
}

// u32 is a number as four bytes.
func u32(n int) string { return string(binary.BigEndian.AppendUint32(nil, uint32(n))) }

// P3.2: a number is four bytes, the greatest first.
func TestNum(t *testing.T) {
	for n, want := range map[int]string{
		0: "\x00\x00\x00\x00", 1: "\x00\x00\x00\x01", 255: "\x00\x00\x00\xff", 258: "\x00\x00\x01\x02",
		0x01020304: "\x01\x02\x03\x04", 0xFFFEFDFC: "\xff\xfe\xfd\xfc", math.MaxUint32: "\xff\xff\xff\xff",
	} {
		s, err := frame.Num(n)
		is(t, "Num", err, api.OK, 0)
		if s != want {
			t.Errorf("%d: %q", n, s)
		}
	}
	for _, n := range []int{-1, math.MinInt, math.MaxUint32 + 1, math.MaxInt} {
		s, err := frame.Num(n)
		is(t, "Num", err, api.ErrArg, 0)
		if s != "" {
			t.Errorf("%d: %q", n, s)
		}
	}
}

// P3.2: a list is how many, and of each its length and its bytes.
func TestList(t *testing.T) {
	for _, l := range [][]string{nil, {""}, {"", ""}, {"a", ""}, {"", "a"}, {"abc", "de", "\x00\xff"}, {strings.Repeat("x", 258), u32(1)}} {
		want := u32(len(l))
		for _, text := range l {
			want += u32(len(text)) + text
		}
		s, err := frame.List(l...)
		is(t, "List", err, api.OK, 0)
		if s != want {
			t.Errorf("List of %q: %q", l, s)
		}
		split(t, s, l)
	}
}

// split asks that s is the list of these texts.
func split(t *testing.T, s string, want []string) {
	t.Helper()
	l, err := frame.Split(s)
	is(t, "Split", err, api.OK, 0)
	if !slices.Equal(l, want) {
		t.Errorf("Split of %q: %q", s, l)
	}
}

// noList asks that s is refused at a place.
func noList(t *testing.T, s string, at int) {
	t.Helper()
	l, err := frame.Split(s)
	is(t, "Split", err, api.ErrRecord, at)
	if len(l) != 0 {
		t.Errorf("Split of %q: %q", s, l)
	}
}

// P3.2: all that comes has no more than MaxRecord bytes.
func TestLongLists(t *testing.T) {
	for _, c := range []struct {
		l    []string
		size int
	}{
		{[]string{strings.Repeat("x", 59992)}, 60000},
		{[]string{strings.Repeat("x", 59993)}, 60001},
		{[]string{strings.Repeat("x", 59988), ""}, 60000},
		{[]string{"", strings.Repeat("x", 59989)}, 60001},
		{make([]string, 14999), 60000},
		{make([]string, 15000), 60004},
		{[]string{strings.Repeat("x", 1000000), "a"}, 1000013},
	} {
		s, err := frame.List(c.l...)
		if c.size > api.MaxRecord {
			is(t, "List", err, api.ErrArg, 0)
			if s != "" {
				t.Errorf("of %d bytes: %q", c.size, s)
			}
			continue
		}
		is(t, "List", err, api.OK, 0)
		if len(s) != c.size {
			t.Errorf("%d bytes, not %d", len(s), c.size)
		}
		split(t, s, c.l)
	}
}

// P3.2: what is no list, and where.
func TestSplitWrong(t *testing.T) {
	right := u32(2) + u32(1) + "a" + u32(0)
	split(t, right, []string{"a", ""})
	for _, c := range []struct {
		s  string
		at int
	}{
		{"", 0}, {"\x00", 0}, {"\x00\x00\x00", 0}, {"\xff", 0}, // the first number is not all there
		{u32(1), 0}, {u32(math.MaxUint32), 0}, {u32(5) + "abcd", 0}, {u32(1 << 31), 0}, // it says more than are left
		{u32(4) + "\x00\x00\x00\x00", 8},                   // as many as bytes are left may be, by this number alone
		{u32(1) + "\x00", 4}, {u32(1) + "\x00\x00\x00", 4}, // a length is not all there
		{right[:8], 4}, {right[:9], 9}, {right[:12], 9}, // cut short
		{u32(1) + u32(9) + "a", 4}, {u32(1) + u32(math.MaxUint32), 4}, {u32(1) + u32(2) + "a", 4}, // it says more than are left
		{u32(2) + u32(1) + "a" + u32(1), 9},
		{right + "x", 13}, {u32(0) + "x", 4}, {u32(0) + u32(0), 4}, {u32(1) + u32(0) + u32(0), 8}, // bytes are left
	} {
		noList(t, c.s, c.at)
	}
	split(t, u32(0), nil)
}

// P3.2: a text that is longer than any list is none, whatever it looks like.
func TestSplitLong(t *testing.T) {
	x := strings.Repeat("x", 59992)
	split(t, u32(1)+u32(59992)+x, []string{x})
	noList(t, u32(1)+u32(59993)+x+"x", 0)
	noList(t, u32(1)+u32(59992)+x+"x", 60000)
	noList(t, u32(1)+u32(59994)+x+"x", 4)
	noList(t, u32(15000)+strings.Repeat(u32(0), 15000), 0)
}

// splitAt is where s is no list, read off the chapter; -1: it is one, of these texts.
func splitAt(s string) (int, []string) {
	next := func(at int) (int, bool) {
		if len(s)-at < 4 {
			return 0, false
		}
		n := int(binary.BigEndian.Uint32([]byte(s[at : at+4])))
		return n, n <= len(s)-at-4
	}
	many, ok := next(0)
	if !ok {
		return 0, nil
	}
	l, at := []string{}, 4
	for len(l) < many {
		n, ok := next(at)
		if !ok {
			return at, nil
		}
		l, at = append(l, s[at+4:at+4+n]), at+4+n
	}
	if at < len(s) {
		return at, nil
	}
	return -1, l
}

// asSplitAt asks that s is read, or refused, as splitAt says, and that a list is the list of what was read.
func asSplitAt(t *testing.T, s string) {
	t.Helper()
	at, l := splitAt(s)
	if at >= 0 {
		noList(t, s, at)
		return
	}
	split(t, s, l)
	if back, err := frame.List(l...); back != s || err != nil {
		t.Errorf("List of %q: %q, %v", l, back, err)
	}
}

// P3.2, P3.5: short texts, and lists in which bytes were changed.
func TestSplitEvery(t *testing.T) {
	for s := range samples.Every("\x00\x01\x02", 9) {
		asSplitAt(t, s)
	}
	for s := range samples.Every("\x00\x01", 13) {
		asSplitAt(t, s)
	}
	r := rand.New(rand.NewSource(5))
	for range 50000 {
		l := make([]string, r.Intn(5))
		for i := range l {
			l[i] = anyText(r, r.Intn(6))
		}
		s, _ := frame.List(l...)
		split(t, s, l)
		bytes := []byte(s)
		for range r.Intn(3) {
			bytes[r.Intn(len(bytes))] = byte(r.Intn(8))
		}
		bytes = append(bytes, anyText(r, r.Intn(3))...)
		asSplitAt(t, string(bytes[:len(bytes)-r.Intn(2)*r.Intn(len(bytes))]))
	}
}
