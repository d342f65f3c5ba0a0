package moment_test

import (
	"strconv"
	"strings"
	"sync"
	"testing"
	"unsafe"

	"storehouse/api"
	"storehouse/moment"
	"storehouse/samples"
)

// answers is what all calls of the layer answer of a number and a text, as one text.
func answers(at int, s string) string {
	all := ""
	for _, f := range forms() {
		text, e := f.tell(at)
		back, e2 := f.read(s)
		all += text + " " + e.Error() + " " + strconv.Itoa(back) + " " + e2.Error() + " "
	}
	year, month, day, e := moment.Date(at)
	begin, e2 := moment.From(at, at, at)
	for _, number := range []int{year, month, day, int(e), begin, int(e2)} {
		all += strconv.Itoa(number) + " "
	}
	return all
}

// P1: every call ends, and none panics, whatever it gets.
func TestAnyArguments(t *testing.T) {
	for _, at := range noMoments() {
		answers(at, strconv.Itoa(at))
		for _, n := range noMoments() {
			moment.From(2000, at, n)
			moment.From(at, n, 1)
			moment.From(at, 1, n)
		}
	}
	for s := range samples.Every("\x00\xff9 :", 4) {
		answers(0, s)
	}
	for _, f := range forms() {
		for _, c := range []string{"\x00", "0", "9", "\xff", " ", "/", ":"} {
			answers(0, strings.Repeat(c, len(f.layout)))
			answers(0, strings.Repeat(c, 1000000))
		}
	}
}

// P2: the errors are ErrArg, which is 1, and ErrDate, which is 51.
func TestErrors(t *testing.T) {
	if api.ErrArg != 1 || api.ErrDate != 51 || api.OK != 0 {
		t.Error(int(api.ErrArg), int(api.ErrDate), int(api.OK))
	}
}

// P3: nothing that is handed in is written into, nor what stands behind it.
func TestNothingIsWritten(t *testing.T) {
	for _, f := range forms() {
		for _, s := range []string{f.told(951827696), strings.Repeat("x", len(f.layout)), "x"} {
			bytes := []byte(s + "behind")
			answers(0, unsafe.String(&bytes[0], len(s)))
			if string(bytes) != s+"behind" {
				t.Errorf("%q became %q", s, bytes)
			}
		}
	}
}

// P3: what is answered twice lies in two places.
func TestAnswersAreNew(t *testing.T) {
	for _, f := range forms() {
		a, _ := f.tell(951827696)
		b, _ := f.tell(951827696)
		if a != b || unsafe.StringData(a) == unsafe.StringData(b) {
			t.Errorf("%s: %q, %q", f.name, a, b)
		}
	}
}

// P4: the same arguments, the same answers, whatever was asked ahead, and whatever goes on beside.
func TestNothingElseCounts(t *testing.T) {
	all := someMoments()[:2000]
	texts, want := make([]string, len(all)), make([]string, len(all))
	for i, at := range all {
		texts[i] = forms()[i%3].told(at)
		want[i] = answers(at, texts[i])
	}
	var done sync.WaitGroup
	for from := range 8 {
		done.Go(func() {
			for n := range all {
				i := (n*7 + from) % len(all)
				if answers(all[i], texts[i]) != want[i] {
					t.Error("another answer:", all[i], texts[i])
				}
			}
		})
	}
	done.Wait()
}
