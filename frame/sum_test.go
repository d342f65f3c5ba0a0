package frame_test

import (
	"hash/crc32"
	"math"
	"math/rand"
	"strings"
	"testing"

	"storehouse/api"
	"storehouse/frame"
)

// anyText is so many bytes.
func anyText(r *rand.Rand, n int) string {
	text := make([]byte, n)
	r.Read(text)
	return string(text)
}

// crc is the library's CRC-32C, of a text that goes on.
func crc(sum uint32, s string) uint32 {
	return crc32.Update(sum, crc32.MakeTable(crc32.Castagnoli), []byte(s))
}

// byBits is P3.1 word by word: a register goes on with each bit of each byte, with no turning.
func byBits(register uint32, s string) uint32 {
	for i := range len(s) {
		for bit := range 8 {
			if uint32(s[i]>>bit&1) != register&1 {
				register = register>>1 ^ 0x82F63B78
			} else {
				register >>= 1
			}
		}
	}
	return register
}

// P3.1: sums that are known: of RFC 3720's section B.4, and of the chapter's examples.
func TestSum(t *testing.T) {
	rising := ""
	for i := range 32 {
		rising += string(rune(i))
	}
	falling := []byte(rising)
	for i := range falling {
		falling[i] = byte(31 - i)
	}
	for s, want := range map[string]uint32{
		"":                         0,
		"123456789":                0xE3069283,
		strings.Repeat("\x00", 32): 0x8A9136AA,
		strings.Repeat("\xff", 32): 0x62A8AB43,
		rising:                     0x46DD794E,
		string(falling):            0x113FDB5C,
	} {
		if got := frame.Sum(s); got != want {
			t.Errorf("%q: %x", s, got)
		}
	}
}

// P3.1: of each byte, of each short length, and of longer texts.
func TestSumOfMany(t *testing.T) {
	r := rand.New(rand.NewSource(1))
	for i := range 256 {
		s := string([]byte{byte(i)})
		if got := frame.Sum(s); got != crc(0, s) || got != ^byBits(math.MaxUint32, s) {
			t.Errorf("%q: %x", s, got)
		}
	}
	for n := range 300 {
		s := anyText(r, n)
		if got := frame.Sum(s); got != crc(0, s) || got != ^byBits(math.MaxUint32, s) {
			t.Errorf("%d bytes: %x", n, got)
		}
	}
	long := anyText(r, 100001)
	if frame.Sum(long) != crc(0, long) {
		t.Error("a long text")
	}
}

// P3.1, P3.5: More goes on, from any number.
func TestMore(t *testing.T) {
	r := rand.New(rand.NewSource(2))
	for _, sum := range []uint32{0, 1, 0x80000000, 0x82F63B78, math.MaxUint32, frame.Sum("a")} {
		if frame.More(sum, "") != sum {
			t.Errorf("More of %x and nothing: %x", sum, frame.More(sum, ""))
		}
		for range 200 {
			s := anyText(r, r.Intn(30))
			if got := frame.More(sum, s); got != crc(sum, s) || got != ^byBits(^sum, s) {
				t.Errorf("More of %x and %q: %x", sum, s, got)
			}
		}
	}
	if frame.More(frame.Sum("1234"), "56789") != 0xE3069283 {
		t.Error("the example")
	}
	for range 500 {
		a, b := anyText(r, r.Intn(100)), anyText(r, r.Intn(100))
		if frame.More(frame.Sum(a), b) != frame.Sum(a+b) {
			t.Errorf("%q, %q", a, b)
		}
	}
}

// P3.1: Join of any two numbers.
func TestJoinAnyNumbers(t *testing.T) {
	r := rand.New(rand.NewSource(3))
	if frame.Join(5, 9, 0) != 12 || frame.Join(0, 0, 60000) != 0 || frame.Join(0, 7, 60000) != 7 {
		t.Error("nothing to go on with")
	}
	for range 500 {
		a, b, n := r.Uint32(), r.Uint32(), r.Intn(200)
		if got := frame.Join(a, b, n); got != byBits(a, strings.Repeat("\x00", n))^b {
			t.Errorf("%x, %x, %d: %x", a, b, n, got)
		}
	}
}

// P3.1, P3.5: Join of the sums is the sum of both; of a length that may not be it is 0.
func TestJoin(t *testing.T) {
	r := rand.New(rand.NewSource(4))
	for range 500 {
		a, b := anyText(r, r.Intn(100)), anyText(r, r.Intn(100))
		if frame.Join(frame.Sum(a), frame.Sum(b), len(b)) != frame.Sum(a+b) {
			t.Errorf("%q, %q", a, b)
		}
	}
	a, b := "ahead", anyText(r, api.MaxRecord)
	if frame.Join(frame.Sum(a), frame.Sum(b), api.MaxRecord) != frame.Sum(a+b) {
		t.Error("of the longest")
	}
	for _, n := range []int{-1, math.MinInt, api.MaxRecord + 1, 1 << 32, math.MaxInt} {
		if got := frame.Join(1, 2, n); got != 0 {
			t.Errorf("of %d bytes: %x", n, got)
		}
	}
}
