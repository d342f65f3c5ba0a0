package frame_test

import (
	"math"
	"math/rand"
	"slices"
	"strings"
	"sync"
	"testing"
	"unsafe"

	"storehouse/api"
	"storehouse/frame"
)

// numbers are those at which a number may go wrong.
var numbers = []int{math.MinInt, -1 << 32, -1, 0, 1, 255, 60000, 60001, math.MaxUint32, math.MaxUint32 + 1, api.MaxEpoch, api.MaxEpoch + 1, math.MaxInt}

// P1, P6: every call ends, and none panics, whatever it gets; numbers that may not be are refused.
func TestAnyArguments(t *testing.T) {
	r := rand.New(rand.NewSource(8))
	record := pack(t, 1, 1, "payload")
	texts := []string{"", "a", "\x01", "\x00\x00\x00\x01", record, record[:63], strings.Repeat("\x01", 200), strings.Repeat("\xff", 200), strings.Repeat("\x00", 100000)}
	for n := range 100 {
		texts = append(texts, anyText(r, n), "\x01"+anyText(r, n))
	}
	for _, s := range texts {
		frame.Sum(s)
		frame.More(math.MaxUint32, s)
		frame.Split(s)
		frame.List(s)
		frame.List(s, s, "")
		for _, n := range numbers {
			_, err := frame.Num(n)
			is(t, "Num", err, refused(0 <= n && n <= math.MaxUint32), 0)
			for _, m := range []int{-1, 0, 1, math.MaxUint32, math.MaxUint32 + 1} {
				frame.Unpack(s, n, m)
				_, err = frame.Pack(n, m, s)
				is(t, "Pack", err, refused(0 <= n && n <= api.MaxEpoch && 0 <= m && m <= math.MaxUint32 && len(s) <= api.MaxRecord), 0)
			}
		}
	}
	for _, n := range numbers {
		if (n < 0 || n > api.MaxRecord) && frame.Join(1, 1, n) != 0 {
			t.Error("Join", n)
		}
	}
}

// refused is the error of an argument that may not be.
func refused(right bool) api.Errno {
	if right {
		return api.OK
	}
	return api.ErrArg
}

// P2: the errors' numbers, each in a fault that is new.
func TestErrors(t *testing.T) {
	if api.ErrArg != 1 || api.ErrRecord != 20 || api.MaxRecord != 60000 || api.MaxEpoch != 1<<62 || api.SectorSize != 64 {
		t.Error("a number of package api")
	}
	for name, call := range map[string]func() error{
		"Num":    func() error { _, err := frame.Num(-1); return err },
		"List":   func() error { _, err := frame.List(strings.Repeat("x", 60000)); return err },
		"Split":  func() error { _, err := frame.Split("x"); return err },
		"Pack":   func() error { _, err := frame.Pack(-1, 0, ""); return err },
		"Unpack": func() error { _, _, err := frame.Unpack("", 0, 0); return err },
	} {
		a, aOK := call().(*api.Fault)
		b, bOK := call().(*api.Fault)
		if !aOK || !bOK || *a != *b || a == b || a.Inner != nil {
			t.Errorf("%s: %v, %v", name, a, b)
		}
	}
}

// P3: nothing that is handed in is written into, nor what stands behind it, and none of it is kept.
func TestNothingIsKept(t *testing.T) {
	record := pack(t, 1, 1, "payload")
	list, _ := frame.List("one", "two")
	bytes := []byte(record + list + "behind")
	lent := unsafe.String(&bytes[0], len(bytes))
	r, l := lent[:len(record)], lent[len(record):len(record)+len(list)]
	payload, _, _ := frame.Unpack(r, 1, 1)
	texts, _ := frame.Split(l)
	again, _ := frame.Pack(2, 2, l)
	whole, _ := frame.List(r)
	parts := []string{l, "", "behind"}
	both, _ := frame.List(parts[:2]...)
	frame.Sum(lent)
	frame.More(1, lent)
	if string(bytes) != record+list+"behind" || !slices.Equal(parts, []string{list, "", "behind"}) {
		t.Errorf("written into: %q, %q", bytes, parts)
	}
	clear(bytes)
	clear(parts)
	if payload != "payload" || !slices.Equal(texts, []string{"one", "two"}) || again[24:24+len(list)] != list || whole[8:] != record || both[8:8+len(list)] != list {
		t.Errorf("kept: %q, %q, %q, %q, %q", payload, texts, again, whole, both)
	}
}

// P3: what is answered twice lies in two places, and so do the texts of one list.
func TestAnswersAreNew(t *testing.T) {
	record := pack(t, 1, 1, "payload")
	list, _ := frame.List("one", "two")
	for name, call := range map[string]func() string{
		"Num":         func() string { s, _ := frame.Num(1); return s },
		"List":        func() string { s, _ := frame.List("a"); return s },
		"Pack":        func() string { s, _ := frame.Pack(1, 1, "a"); return s },
		"Unpack":      func() string { s, _, _ := frame.Unpack(record, 1, 1); return s },
		"Split, text": func() string { l, _ := frame.Split(list); return l[1] },
	} {
		if a, b := call(), call(); a != b || unsafe.StringData(a) == unsafe.StringData(b) {
			t.Errorf("%s: %q, %q", name, a, b)
		}
	}
	a, _ := frame.Split(list)
	b, _ := frame.Split(list)
	a[0] = "x"
	_ = append(a, "y")
	if !slices.Equal(b, []string{"one", "two"}) {
		t.Errorf("%q", b)
	}
}

// P4: the same arguments, the same answers, whatever goes on beside.
func TestNothingElseCounts(t *testing.T) {
	told := func() string {
		list, _ := frame.List("one", "", "three")
		record, _ := frame.Pack(5, 6, list)
		payload, n, _ := frame.Unpack(record+"behind", 5, 6)
		texts, _ := frame.Split(payload)
		sum, _ := frame.Num(int(frame.Join(frame.Sum(list), frame.More(7, record), n)))
		return record + strings.Join(texts, "|") + sum
	}
	want := told()
	var all sync.WaitGroup
	for range 8 {
		all.Go(func() {
			for range 100 {
				if told() != want {
					t.Error("another answer")
				}
			}
		})
	}
	all.Wait()
}

// P5: of nothing there is a list, nil or empty, and there and back it is nothing.
func TestOfNothing(t *testing.T) {
	for _, l := range [][]string{nil, {}} {
		s, err := frame.List(l...)
		is(t, "List", err, api.OK, 0)
		if s != "\x00\x00\x00\x00" {
			t.Errorf("%q", s)
		}
		split(t, s, nil)
	}
	s := pack(t, 0, 0, "")
	unpacks(t, s, 0, 0, "", 64)
	if s[0] != 1 || strings.Trim(s[1:20]+s[24:], "\x00") != "" || s[20:24] != u32(int(frame.Sum(s[4:20]))) {
		t.Errorf("%q", s)
	}
}
