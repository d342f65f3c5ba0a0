package shard_test

import (
	"errors"
	"math"
	"math/rand"
	"strconv"
	"strings"
	"sync"
	"testing"
	"unsafe"

	"storehouse/api"
	"storehouse/samples"
	"storehouse/shard"
)

// told is what all calls of the layer answer, as one text.
func told(name, text string) string {
	given, err := shard.Seal(name, text)
	all := given + number(err)
	back, err := shard.Open(name, given)
	all += back + number(err)
	back, err = shard.Open(name, text)
	return all + back + number(err) + strconv.Itoa(shard.Size(len(text)))
}

// number is an error's, and its place, as a text.
func number(err error) string {
	var f *api.Fault
	if !errors.As(err, &f) {
		return ". "
	}
	return " " + strconv.Itoa(int(f.Code)) + " at " + strconv.Itoa(f.At) + ". "
}

// P1, P6: every call ends, and none panics, whatever it gets.
func TestAnyArguments(t *testing.T) {
	r := rand.New(rand.NewSource(9))
	for s := range samples.Every("\x00\x01\xff", 5) {
		told(s, s)
		told(strings.Repeat(s, 50), strings.Repeat(s, 80))
		told("name", s+headOf("name", 0))
		told("name", s+strings.Repeat("\x00", head))
	}
	for range 2000 {
		told(anyText(r, r.Intn(300)), anyText(r, r.Intn(600)))
		told("name", u32(r.Intn(1000))+anyText(r, r.Intn(1200)))
	}
	for _, many := range []int{220, 221, 10000, 10001, 11636, 11637, 1 << 24} {
		for _, s := range []string{"\x00", "x", "\xff"} {
			told(strings.Repeat(s, many), strings.Repeat(s, many))
			told("name", strings.Repeat(s, many))
		}
	}
	for _, length := range []int{math.MinInt, -1, 0, math.MaxInt} {
		shard.Size(length)
	}
}

// P2: each error is a new fault that errors.Is finds, and that came from nothing.
func TestErrors(t *testing.T) {
	if api.ErrArg != 1 || api.ErrRot != 14 || api.MaxName != 220 || api.MaxSealed != 10000 || api.BlockSize != 200 {
		t.Error("a number of package api")
	}
	long, given := strings.Repeat("n", 221), sealed("name", strings.Repeat("t", 300))
	for what, c := range map[string]struct {
		code api.Errno
		at   int
		call func() error
	}{
		"Seal, name":  {api.ErrArg, 0, func() error { _, err := shard.Seal(long, ""); return err }},
		"Seal, text":  {api.ErrArg, 0, func() error { _, err := shard.Seal("", strings.Repeat("t", 10001)); return err }},
		"Open, name":  {api.ErrArg, 0, func() error { _, err := shard.Open(long, given); return err }},
		"Open, size":  {api.ErrRot, 0, func() error { _, err := shard.Open("name", given[1:]); return err }},
		"Open, block": {api.ErrRot, 268, func() error { _, err := shard.Open("name", turned(given, 300, 1)); return err }},
	} {
		a, b := c.call(), c.call()
		is(t, what, a, c.code, c.at)
		if !errors.Is(a, c.code) || errors.Unwrap(a) != nil || a == b {
			t.Errorf("%s: %v, %v", what, a, b)
		}
	}
}

// lent is a text whose bytes may be changed behind it, with something that stands behind.
func lent(s string) ([]byte, string) {
	bytes := []byte(s + "behind")
	return bytes, unsafe.String(&bytes[0], len(s))
}

// P3: nothing that is handed in is written into, nor what stands behind it, and none of it is kept.
func TestNothingIsKept(t *testing.T) {
	for _, length := range []int{0, 1, 200, 450, 10000} {
		text := strings.Repeat("t", length)
		want := sealed("name", text)
		nameBytes, name := lent("name")
		textBytes, plain := lent(text)
		givenBytes, given := lent(want)
		got, _ := shard.Seal(name, plain)
		back, _ := shard.Open(name, given)
		if string(nameBytes) != "namebehind" || string(textBytes) != text+"behind" || string(givenBytes) != want+"behind" {
			t.Errorf("written into: %q, %q, %q", nameBytes, brief(string(textBytes)), brief(string(givenBytes)))
		}
		clear(nameBytes)
		clear(textBytes)
		clear(givenBytes)
		if got != want || back != text {
			t.Errorf("kept: %q, %q", brief(got), brief(back))
		}
	}
}

// P3: what is answered twice lies in two places, and in none that was handed in.
func TestAnswersAreNew(t *testing.T) {
	for _, text := range []string{"t", strings.Repeat("t", 200), strings.Repeat("t", 450)} {
		given := sealed("name", text)
		for what, call := range map[string]func() string{
			"Seal": func() string { s, _ := shard.Seal("name", text); return s },
			"Open": func() string { s, _ := shard.Open("name", given); return s },
		} {
			a, b := call(), call()
			if a != b || unsafe.StringData(a) == unsafe.StringData(b) {
				t.Errorf("%s: %q, %q", what, brief(a), brief(b))
			}
			for _, s := range []string{text, given} {
				from := uintptr(unsafe.Pointer(unsafe.StringData(s)))
				if at := uintptr(unsafe.Pointer(unsafe.StringData(a))); at >= from && at < from+uintptr(len(s)) {
					t.Errorf("%s: a piece of what it was told", what)
				}
			}
		}
	}
}

// P4: the same arguments, the same answers, whatever goes on beside.
func TestNothingElseCounts(t *testing.T) {
	texts := []string{"", "abc", strings.Repeat("ab", 300), sealed("name", strings.Repeat("t", 450)), turned(sealed("name", strings.Repeat("t", 450)), 300, 1)}
	var want []string
	for _, text := range texts {
		want = append(want, told("name", text))
	}
	var all sync.WaitGroup
	for n := range 8 {
		all.Go(func() {
			for i := range 200 {
				which := (i*(n+1) + n) % len(texts)
				if told("name", texts[which]) != want[which] {
					t.Error("another answer", which)
				}
			}
		})
	}
	all.Wait()
}

// P5: of nothing there is a sealed text, and nothing is sealed in nothing.
func TestOfNothing(t *testing.T) {
	seals(t, "", "", sealed("", ""), api.OK)
	opens(t, "", sealed("", ""), "")
	opens(t, "", sealed("", "text"), "text")
	refuses(t, "", "", api.ErrRot, 0)
	if shard.Size(0) != head {
		t.Error("Size(0):", shard.Size(0))
	}
}

// P6: Size counts a length that may not be as 0; the places that Open tells lie in what it was told.
func TestPlaces(t *testing.T) {
	r := rand.New(rand.NewSource(10))
	for range 2000 {
		given := mixed(r)
		_, err := shard.Open("name", given)
		var f *api.Fault
		if errors.As(err, &f) && (f.At < 0 || f.At > 0 && f.At >= len(given)) {
			t.Errorf("at %d of %d", f.At, len(given))
		}
	}
	for length := -300; length < 0; length++ {
		if got := shard.Size(length) + shard.Size(api.MaxSealed-length); got != 0 {
			t.Errorf("Size(%d): %d", length, got)
		}
	}
}
