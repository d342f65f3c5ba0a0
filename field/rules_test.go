package field_test

import (
	"math/rand"
	"strconv"
	"strings"
	"sync"
	"testing"
	"unsafe"

	"storehouse/field"
)

// told is what all calls of the layer answer of two numbers and two texts, as one text.
func told(a, b byte, n int, to, of string) string {
	quotient, ok1 := field.Div(a, b)
	inverse, ok2 := field.Inv(a)
	log, ok3 := field.Log(a)
	text, ok4 := field.Scale(to, of, a)
	all := ""
	for _, number := range []int{int(field.Add(a, b)), int(field.Mul(a, b)), int(quotient), int(inverse), int(field.Pow(a, n)), int(field.Exp(n)), log} {
		all += strconv.Itoa(number) + " "
	}
	for _, ok := range []bool{ok1, ok2, ok3, ok4} {
		all += strconv.FormatBool(ok) + " "
	}
	return all + text
}

// P1, P6: every call ends, and none panics, whatever it gets; a number of times below 0, or far off, counts as the chapter says.
func TestAnyArguments(t *testing.T) {
	texts := []string{"", "\x00", "a", "\xff\xfe", strings.Repeat("\xff", 1000000)}
	for _, n := range far() {
		for _, a := range []byte{0, 1, 2, 127, 128, 255} {
			told(a, 0, n, "", "")
			told(a, a, n, "a", "bc")
		}
	}
	for _, to := range texts {
		for _, of := range texts {
			told(255, 255, 0, to, of)
		}
	}
}

// P2: where a bool says that there is nothing, the other result is its zero value.
func TestNothingBesideFalse(t *testing.T) {
	for i := range 256 {
		if got, ok := field.Div(byte(i), 0); got != 0 || ok {
			t.Error("Div:", i, got, ok)
		}
		if got, ok := field.Scale("text", "texts", byte(i)); got != "" || ok {
			t.Errorf("Scale: %d, %q, %v", i, got, ok)
		}
	}
	if got, ok := field.Inv(0); got != 0 || ok {
		t.Error("Inv:", got, ok)
	}
	if got, ok := field.Log(0); got != 0 || ok {
		t.Error("Log:", got, ok)
	}
}

// P3: nothing that is handed in is written into, nor what stands behind it, and none of it is kept.
func TestNothingIsKept(t *testing.T) {
	for _, times := range []byte{0, 1, 2, 255} {
		bytes := []byte("to these bytes" + "of these bytes" + "behind")
		lent := unsafe.String(&bytes[0], len(bytes))
		got, ok := field.Scale(lent[:14], lent[14:28], times)
		if string(bytes) != "to these bytes"+"of these bytes"+"behind" {
			t.Errorf("written into: %q", bytes)
		}
		clear(bytes)
		if want := sums("to these bytes", "of these bytes", times); got != want || !ok {
			t.Errorf("times %d: %q, %v, not %q", times, got, ok, want)
		}
	}
}

// P3: what is answered twice lies in two places, and not in an argument's.
func TestAnswersAreNew(t *testing.T) {
	to, nothing := strings.Repeat("to", 20), strings.Repeat("\x00", 40)
	for _, times := range []byte{0, 1, 255} {
		a, _ := field.Scale(to, nothing, times)
		b, _ := field.Scale(to, nothing, times)
		c, _ := field.Scale(nothing, to, times)
		if a != to || a != b || unsafe.StringData(a) == unsafe.StringData(b) || unsafe.StringData(a) == unsafe.StringData(to) || unsafe.StringData(c) == unsafe.StringData(to) {
			t.Errorf("times %d: %q, %q", times, a, b)
		}
	}
}

// P4: the same arguments, the same answers, whatever goes on beside.
func TestNothingElseCounts(t *testing.T) {
	want := map[int]string{}
	r := rand.New(rand.NewSource(4))
	to, of := anyText(r, 50), anyText(r, 50)
	for i := range 1000 {
		want[i] = told(byte(i), byte(i/3), i*i-5000, to, of)
	}
	var all sync.WaitGroup
	for from := range 8 {
		all.Go(func() {
			for n := range 1000 {
				i := (n*7 + from) % 1000
				if told(byte(i), byte(i/3), i*i-5000, to, of) != want[i] {
					t.Error("another answer:", i)
				}
			}
		})
	}
	all.Wait()
}

// P5: of two texts of nothing there is one of nothing, whatever the number.
func TestOfNothing(t *testing.T) {
	for times := range 256 {
		scales(t, "", "", byte(times), "")
	}
}
