package field_test

import (
	"math"
	"math/rand"
	"strings"
	"testing"

	"storehouse/field"
)

// product is that of the polynomials, divided by 285 as on paper: what stays.
func product(a, b byte) byte {
	all := 0
	for i := range 8 {
		if b>>i&1 > 0 {
			all ^= int(a) << i
		}
	}
	for i := 14; i >= 8; i-- {
		if all>>i&1 > 0 {
			all ^= 285 << (i - 8)
		}
	}
	return byte(all)
}

// inverses are found by trying, by number; of 0 it is 0.
func inverses() [256]byte {
	var all [256]byte
	for a := range 256 {
		for b := range 256 {
			if product(byte(a), byte(b)) == 1 {
				all[a] = byte(b)
			}
		}
	}
	return all
}

// answersNumber asks that a call answers a number, or that there is none.
func answersNumber(t *testing.T, call string, got byte, ok bool, want byte, there bool) {
	t.Helper()
	if got != want || ok != there {
		t.Errorf("%s: %d, %v, not %d, %v", call, got, ok, want, there)
	}
}

// anyText is n bytes of all values.
func anyText(r *rand.Rand, n int) string {
	b := make([]byte, n)
	r.Read(b)
	return string(b)
}

// The chapter's examples.
func TestExamples(t *testing.T) {
	for _, c := range []struct {
		call      string
		got, want byte
	}{
		{"Add(5, 3)", field.Add(5, 3), 6},
		{"Mul(2, 128)", field.Mul(2, 128), 29},
		{"Mul(3, 7)", field.Mul(3, 7), 9},
		{"Exp(8)", field.Exp(8), 29},
		{"Exp(255)", field.Exp(255), 1},
		{"Exp(-1)", field.Exp(-1), 142},
		{"Pow(0, 0)", field.Pow(0, 0), 1},
		{"Pow(0, -1)", field.Pow(0, -1), 0},
	} {
		answersNumber(t, c.call, c.got, true, c.want, true)
	}
	got, ok := field.Inv(2)
	answersNumber(t, "Inv(2)", got, ok, 142, true)
	got, ok = field.Div(1, 0)
	answersNumber(t, "Div(1, 0)", got, ok, 0, false)
	scales(t, "\x01\x02", "\x03\x04", 2, "\x07\x0a")
}

// P6.1: of every two numbers the sum, the product, and what is divided.
func TestEveryTwo(t *testing.T) {
	inverse := inverses()
	for i := range 256 * 256 {
		a, b := byte(i/256), byte(i)
		if got := field.Add(a, b); got != a^b {
			t.Errorf("Add(%d, %d): %d", a, b, got)
		}
		if got := field.Mul(a, b); got != product(a, b) {
			t.Errorf("Mul(%d, %d): %d", a, b, got)
		}
		got, ok := field.Div(a, b)
		if got != product(a, inverse[b]) || ok != (b != 0) || ok && product(got, b) != a {
			t.Errorf("Div(%d, %d): %d, %v", a, b, got, ok)
		}
	}
}

// P6.1: each number's inverse; 0 has none.
func TestInv(t *testing.T) {
	for i, want := range inverses() {
		got, ok := field.Inv(byte(i))
		if got != want || ok != (i != 0) {
			t.Errorf("Inv(%d): %d, %v, not %d", i, got, ok, want)
		}
		if quotient, there := field.Div(1, byte(i)); quotient != got || there != ok {
			t.Errorf("Div(1, %d): %d, %v", i, quotient, there)
		}
	}
}

// P6.2: each number taken one time more, and one time less, from 0 times on.
func TestPow(t *testing.T) {
	for i, inverse := range inverses() {
		a := byte(i)
		up, down := byte(1), byte(1)
		for n := range 600 {
			if got := field.Pow(a, n); got != up {
				t.Errorf("Pow(%d, %d): %d, not %d", a, n, got, up)
			}
			if got := field.Pow(a, -n); got != down {
				t.Errorf("Pow(%d, %d): %d, not %d", a, -n, got, down)
			}
			up, down = product(up, a), product(down, inverse)
		}
	}
}

// squared is a, n times, found by squaring, bit by bit of n from its highest on.
func squared(a byte, n uint64) byte {
	power := byte(1)
	for i := 63; i >= 0; i-- {
		power = product(power, power)
		if n>>i&1 > 0 {
			power = product(power, a)
		}
	}
	return power
}

// far are numbers of times about the ends of what there is, and where halves of an int wrap.
func far() []int {
	var all []int
	for _, n := range []int{math.MinInt, math.MinInt32, -65536, -65535, -255 * 255, 255 * 255, 65535, 65536, math.MaxInt32, math.MaxUint32, 1 << 62, math.MaxInt} {
		for more := range 7 {
			all = append(all, n+more-3) // beyond an end it is the other one's
		}
	}
	return all
}

// P6.2: any int may say how many times.
func TestPowFar(t *testing.T) {
	inverse := inverses()
	for _, n := range far() {
		for i := range 256 {
			want := squared(byte(i), uint64(n))
			if n < 0 {
				want = squared(inverse[i], -uint64(n))
			}
			if got := field.Pow(byte(i), n); got != want {
				t.Errorf("Pow(%d, %d): %d, not %d", i, n, got, want)
			}
		}
	}
}

// P6.2: 0 taken 0 times is 1, else 0, however often 255 goes into it.
func TestPowOfNought(t *testing.T) {
	for _, n := range append(far(), -510, -256, -255, -254, -2, -1, 1, 2, 254, 255, 256, 510) {
		if got := field.Pow(0, n); got != 0 {
			t.Errorf("Pow(0, %d): %d", n, got)
		}
	}
	if got := field.Pow(0, 0); got != 1 {
		t.Errorf("Pow(0, 0): %d", got)
	}
}

// P6.2: Exp is Pow of 2, of any int.
func TestExp(t *testing.T) {
	power := byte(1)
	for n := range 1000 {
		if got := field.Exp(n); got != power {
			t.Errorf("Exp(%d): %d, not %d", n, got, power)
		}
		power = product(power, 2)
	}
	for n := -1000; n <= 1000; n++ {
		if got := field.Exp(n); got != field.Pow(2, n) {
			t.Errorf("Exp(%d): %d", n, got)
		}
	}
	for _, n := range far() {
		if got := field.Exp(n); got != field.Pow(2, n) {
			t.Errorf("Exp(%d): %d", n, got)
		}
	}
}

// P6.2: Log is the place among the powers of 2, 0 to 254; 0 has none.
func TestLog(t *testing.T) {
	power := byte(1)
	for want := range 255 {
		if got, ok := field.Log(power); got != want || !ok {
			t.Errorf("Log(%d): %d, %v, not %d", power, got, ok, want)
		}
		power = product(power, 2)
	}
	if got, ok := field.Log(0); got != 0 || ok {
		t.Errorf("Log(0): %d, %v", got, ok)
	}
}

// scales asks that Scale answers a text.
func scales(t *testing.T, to, of string, times byte, want string) {
	t.Helper()
	if got, ok := field.Scale(to, of, times); got != want || !ok {
		t.Errorf("Scale(%q, %q, %d): %q, %v, not %q", to, of, times, got, ok, want)
	}
}

// sums is what Scale is to answer, byte by byte.
func sums(to, of string, times byte) string {
	text := make([]byte, len(to))
	for i := range text {
		text[i] = to[i] ^ product(times, of[i])
	}
	return string(text)
}

// P6.3: each byte of both texts and each number of times; texts of every length.
func TestScale(t *testing.T) {
	r := rand.New(rand.NewSource(1))
	all := make([]byte, 256)
	for i := range all {
		all[i] = byte(i)
	}
	for i := range 256 {
		times := byte(i)
		for _, to := range []string{string(all), strings.Repeat("\x00", 256), strings.Repeat("\xff", 256), anyText(r, 256)} {
			scales(t, to, string(all), times, sums(to, string(all), times))
		}
		to, of := anyText(r, i), anyText(r, i)
		scales(t, to, of, times, sums(to, of, times))
		scales(t, to, of, 0, to)
		scales(t, to, of, 1, sums(to, of, 1))
		scales(t, to, to, 1, strings.Repeat("\x00", i))
	}
	to, of := anyText(r, 100000), anyText(r, 100000)
	scales(t, to, of, 200, sums(to, of, 200))
}

// P6.3: texts of two lengths make nothing, whichever is the longer one, by whatever number.
func TestScaleOfTwoLengths(t *testing.T) {
	for to := range 20 {
		for of := range 20 {
			if to == of {
				continue
			}
			for times := range 256 {
				got, ok := field.Scale(strings.Repeat("a", to), strings.Repeat("b", of), byte(times))
				if got != "" || ok {
					t.Errorf("Scale of %d bytes and %d, times %d: %q, %v", to, of, times, got, ok)
				}
			}
		}
	}
}
