package erasure_test

import (
	"errors"
	"math"
	"math/rand"
	"slices"
	"strconv"
	"strings"
	"sync"
	"testing"
	"unsafe"

	"storehouse/api"
	"storehouse/erasure"
)

// told is what all calls of the layer answer, as one text.
func told(k, m, length int, text string, texts []string, pieces []api.Piece) string {
	n, err := erasure.Size(k, length)
	all := strconv.Itoa(n) + number(err)
	list, err := erasure.Encode(k, m, text)
	all += strings.Join(list, "|") + number(err)
	list, err = erasure.Restore(k, m, length, pieces)
	all += strings.Join(list, "|") + number(err)
	joined, err := erasure.Join(k, length, texts)
	all += joined + number(err)
	right, err := erasure.Check(k, m, texts)
	return all + strconv.FormatBool(right) + number(err)
}

// number is an error's, as a text.
func number(err error) string {
	var f *api.Fault
	if !errors.As(err, &f) {
		return ". "
	}
	return " " + strconv.Itoa(int(f.Code)) + ". "
}

// P1, P6: every call ends, and none panics, whatever it gets.
func TestAnyArguments(t *testing.T) {
	numbers := []int{math.MinInt, math.MinInt + 1, -256, -2, -1, 0, 1, 2, 3, 128, 254, 255, 256, 1 << 32, math.MaxInt - 255, math.MaxInt - 1, math.MaxInt}
	texts := [][]string{nil, {""}, {"a"}, {"a", "bc"}, {"ab", "cd", "ef"}, make([]string, 255), make([]string, 256)}
	for i, k := range numbers {
		for j, m := range numbers {
			for _, length := range numbers {
				list := texts[(i+j)%len(texts)]
				told(k, m, length, "a text", list, pieces(list, upTo(len(list))...))
				told(k, m, length, "", list, pieces(list))
			}
		}
	}
}

// P2: each error is a new fault that errors.Is finds, with no place, and that came from nothing.
func TestErrors(t *testing.T) {
	if api.ErrArg != 1 || api.ErrFew != 17 || api.ErrShape != 19 || api.MaxRows != 255 {
		t.Error("a number of package api")
	}
	for name, c := range map[string]struct {
		code api.Errno
		call func() error
	}{
		"Size":           {api.ErrArg, func() error { _, err := erasure.Size(0, 1); return err }},
		"Encode":         {api.ErrArg, func() error { _, err := erasure.Encode(1, -1, ""); return err }},
		"Restore":        {api.ErrArg, func() error { _, err := erasure.Restore(1, 0, -1, nil); return err }},
		"Restore, shape": {api.ErrShape, func() error { _, err := erasure.Restore(1, 0, 0, nil); return err }},
		"Restore, few":   {api.ErrFew, func() error { _, err := erasure.Restore(1, 0, 0, make([]api.Piece, 1)); return err }},
		"Join":           {api.ErrArg, func() error { _, err := erasure.Join(256, 0, nil); return err }},
		"Join, shape":    {api.ErrShape, func() error { _, err := erasure.Join(1, 0, nil); return err }},
		"Check":          {api.ErrArg, func() error { _, err := erasure.Check(255, 1, nil); return err }},
		"Check, shape":   {api.ErrShape, func() error { _, err := erasure.Check(1, 0, nil); return err }},
	} {
		a, b := c.call(), c.call()
		is(t, name, a, c.code)
		if !errors.Is(a, c.code) || a == b {
			t.Errorf("%s: %v, %v", name, a, b)
		}
	}
}

// lent are three shards of two bytes, a text of all their bytes, and the memory that all of it lies in, with something behind.
func lent() (bytes []byte, text string, shards []string) {
	all := encoded(2, 1, "abcd")
	bytes = []byte(strings.Join(all, "") + "behind")
	whole := unsafe.String(&bytes[0], len(bytes))
	return bytes, whole[:6], []string{whole[0:2], whole[2:4], whole[4:6], "behind"}
}

// P3: nothing that is handed in is written into, nor what stands behind it, and none of it is kept.
func TestNothingIsKept(t *testing.T) {
	bytes, text, texts := lent()
	given, some := string(bytes), slices.Clone(texts)
	list := append(pieces(texts[:3], 0, 2), api.Piece{Data: "behind"})
	same := slices.Clone(list)
	three, _ := erasure.Encode(2, 1, text)
	one, _ := erasure.Encode(1, 0, text)
	restored, _ := erasure.Restore(2, 1, 4, list[:3])
	joined, _ := erasure.Join(2, 4, texts[:3])
	single, _ := erasure.Join(1, 2, texts[:1])
	checks(t, 2, 1, texts[:3], true, api.OK)
	if string(bytes) != given || !slices.Equal(texts, some) || !slices.Equal(list, same) {
		t.Errorf("written into: %q, %q, %v", bytes, texts, list)
	}
	clear(bytes)
	clear(texts)
	clear(list)
	if want := encoded(2, 1, given[:6]); !slices.Equal(three, want) || one[0] != given[:6] {
		t.Errorf("kept by Encode: %q, %q", three, one)
	}
	if !slices.Equal(restored, encoded(2, 1, "abcd")) || joined != "abcd" || single != "ab" {
		t.Errorf("kept: %q, %q, %q", restored, joined, single)
	}
}

// P3: what is answered is new memory, spare room too: not an argument's, not another answer's, not another text's of one answer.
func TestAnswersAreNew(t *testing.T) {
	all := encoded(3, 2, strings.Repeat("the same bytes. ", 3))
	calls := []func() []string{
		func() []string { return shards(t, 3, 2, strings.Repeat("the same bytes. ", 3)) },
		func() []string { return shards(t, 3, 0, strings.Repeat("the same bytes. ", 3)) },
		func() []string { return restored(t, 3, 2, 48, pieces(all, upTo(5)...)) },
		func() []string { return restored(t, 3, 2, 48, pieces(all, 0, 3, 4)) },
		func() []string { return restored(t, 3, 0, 48, pieces(all[:3], 0, 1, 2)) },
	}
	for i, call := range calls {
		first, second := call(), call()
		kept := slices.Clone(first)
		for j := range first {
			for _, other := range append(slices.Clone(all), second[j], first[(j+1)%len(first)]) {
				if unsafe.StringData(first[j]) == unsafe.StringData(other) {
					t.Errorf("shared: %d, %q", i, first[j])
				}
			}
		}
		clear(second[:cap(second)])
		if !slices.Equal(first, kept) {
			t.Errorf("shared: %d, %q", i, first)
		}
	}
	for _, k := range []int{1, 2} {
		text, err := erasure.Join(k, 16*k, all)
		is(t, "Join", err, api.OK)
		if unsafe.StringData(text) == unsafe.StringData(all[0]) {
			t.Errorf("shared: %q", text)
		}
	}
}

// restored is Restore of what may be.
func restored(t *testing.T, k, m, length int, pieces []api.Piece) []string {
	t.Helper()
	all, err := erasure.Restore(k, m, length, pieces)
	is(t, "Restore", err, api.OK)
	return all
}

// P4: the same arguments, the same answers, whatever goes on beside.
func TestNothingElseCounts(t *testing.T) {
	r := rand.New(rand.NewSource(11))
	text := anyText(r, 70)
	right, other := encoded(7, 4, text), anyTexts(r, 11, 10)
	both := func() string {
		return told(7, 4, 70, text, right, pieces(right, 1, 2, 4, 5, 8, 9, 10)) + told(7, 4, 66, text, other, pieces(other, 0, 3, 4, 6, 7, 8, 9, 10))
	}
	want := both()
	var all sync.WaitGroup
	for range 8 {
		all.Go(func() {
			for range 100 {
				if both() != want {
					t.Error("another answer")
				}
			}
		})
	}
	all.Wait()
}

// P5: a list of nothing may be nil or empty; texts of nothing are texts.
func TestOfNothing(t *testing.T) {
	for _, texts := range [][]string{nil, {}} {
		joins(t, 1, 0, texts, "", api.ErrShape)
		checks(t, 1, 0, texts, false, api.ErrShape)
	}
	for _, list := range [][]api.Piece{nil, {}} {
		restores(t, 1, 0, 0, list, nil, api.ErrShape)
	}
	restores(t, 2, 1, 0, pieces(make([]string, 3), 1, 2), make([]string, 3), api.OK)
	joins(t, 2, 0, make([]string, 2), "", api.OK)
	checks(t, 2, 1, make([]string, 3), true, api.OK)
}
