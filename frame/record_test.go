package frame_test

import (
	"encoding/binary"
	"math"
	"math/rand"
	"strings"
	"testing"

	"storehouse/api"
	"storehouse/frame"
)

// byHand is a record laid down by the chapter's words, with any numbers.
func byHand(mark byte, size, number uint32, epoch uint64, payload string) string {
	head := binary.BigEndian.AppendUint32(nil, size)
	head = binary.BigEndian.AppendUint32(head, number)
	head = binary.BigEndian.AppendUint64(head, epoch)
	sum := binary.BigEndian.AppendUint32(nil, crc(0, string(head)+payload))
	record := string(mark) + "\x00\x00\x00" + string(head) + string(sum) + payload
	for len(record)%64 != 0 {
		record += "\x00"
	}
	return record
}

// pack is a record that must be one.
func pack(t *testing.T, epoch, number int, payload string) string {
	t.Helper()
	s, err := frame.Pack(epoch, number, payload)
	is(t, "Pack", err, api.OK, 0)
	return s
}

// unpacks asks that s begins with a record that has this payload and so many bytes.
func unpacks(t *testing.T, s string, epoch, number int, payload string, size int) {
	t.Helper()
	got, n, err := frame.Unpack(s, epoch, number)
	is(t, "Unpack", err, api.OK, 0)
	if got != payload || n != size {
		t.Errorf("Unpack: %d bytes %.100q, %d", len(got), got, n)
	}
}

// noRecord asks that s begins with no record of this epoch and number.
func noRecord(t *testing.T, what, s string, epoch, number int) {
	t.Helper()
	got, n, err := frame.Unpack(s, epoch, number)
	is(t, what, err, api.ErrRecord, 0)
	if got != "" || n != 0 {
		t.Errorf("%s: %d bytes %.100q, %d", what, len(got), got, n)
	}
}

// P3.3: the example, byte by byte.
func TestPackExample(t *testing.T) {
	s := pack(t, 7, 1, "ab")
	want := "\x01\x00\x00\x00" + "\x00\x00\x00\x02" + "\x00\x00\x00\x01" + "\x00\x00\x00\x00\x00\x00\x00\x07"
	sum := frame.Sum(want[4:] + "ab")
	want += u32(int(sum)) + "ab" + strings.Repeat("\x00", 38)
	if len(s) != 64 || s != want {
		t.Errorf("%q", s)
	}
	unpacks(t, s, 7, 1, "ab", 64)
	noRecord(t, "another number", s, 7, 2)
}

// P3.3, P3.4, P3.5: of each length, whole sectors; behind it may stand what will.
func TestPackLengths(t *testing.T) {
	r := rand.New(rand.NewSource(6))
	lengths := []int{59943, 59944, 59945, 59999, 60000}
	for n := range 300 {
		lengths = append(lengths, n)
	}
	for _, n := range lengths {
		payload := anyText(r, n)
		s := pack(t, 1, n, payload)
		size := (24 + n + 63) / 64 * 64
		if len(s) != size || s != byHand(1, uint32(n), uint32(n), 1, payload) {
			t.Errorf("of %d bytes: %d", n, len(s))
		}
		unpacks(t, s, 1, n, payload, size)
		unpacks(t, s+"x", 1, n, payload, size)
		unpacks(t, s+s, 1, n, payload, size)
		noRecord(t, "cut short", s[:size-1], 1, n)
		noRecord(t, "no sector", s[:size-64], 1, n)
		noRecord(t, "not at the beginning", "x"+s, 1, n)
	}
}

// P3.3: the edges of what may be packed; what is beyond them is refused.
func TestPackEdges(t *testing.T) {
	long := strings.Repeat("x", api.MaxRecord)
	for _, epoch := range []int{0, 1, 255, 1 << 32, api.MaxEpoch - 1, api.MaxEpoch} {
		for _, number := range []int{0, 1, 1 << 31, math.MaxUint32} {
			for _, payload := range []string{"", "a", long} {
				s := pack(t, epoch, number, payload)
				if s != byHand(1, uint32(len(payload)), uint32(number), uint64(epoch), payload) {
					t.Errorf("%d, %d: %.100q", epoch, number, s)
				}
				unpacks(t, s, epoch, number, payload, len(s))
			}
		}
	}
	for _, c := range []struct {
		epoch, number int
		payload       string
	}{
		{-1, 0, ""}, {math.MinInt, 0, ""}, {api.MaxEpoch + 1, 0, ""}, {math.MaxInt, 0, ""},
		{0, -1, ""}, {0, math.MinInt, ""}, {0, math.MaxUint32 + 1, ""}, {0, math.MaxInt, ""},
		{0, 0, long + "x"}, {0, 0, strings.Repeat("x", 1000000)}, {-1, -1, long + "x"},
	} {
		s, err := frame.Pack(c.epoch, c.number, c.payload)
		is(t, "Pack", err, api.ErrArg, 0)
		if s != "" {
			t.Errorf("%d, %d: %.100q", c.epoch, c.number, s)
		}
	}
}

// P3.4: another mark, another epoch, another number, another sum.
func TestUnpackWrong(t *testing.T) {
	right := byHand(1, 2, 3, 4, "ab")
	unpacks(t, right, 4, 3, "ab", 64)
	for mark := range 256 {
		if mark != 1 {
			noRecord(t, "another mark", string([]byte{byte(mark)})+right[1:], 4, 3)
		}
	}
	for _, other := range [][2]int{{4, 2}, {4, 4}, {5, 3}, {3, 4}, {0, 3}, {4, 0}, {-4, 3}, {4, -3}, {4, 3 + 1<<32}, {4 + 1<<32, 3}, {4, 3 - 1<<32}, {math.MinInt + 4, 3}} {
		noRecord(t, "another epoch or number", right, other[0], other[1])
	}
	noRecord(t, "another payload", right[:24]+"ac"+right[26:], 4, 3)
	noRecord(t, "another sum", right[:20]+u32(0)+right[24:], 4, 3)
	noRecord(t, "nothing", "", 0, 0)
	noRecord(t, "noughts", strings.Repeat("\x00", 64), 0, 0)
	noRecord(t, "ones", strings.Repeat("\x01", 64), 0x0101010101010101, 0x01010101)
	for n := range 64 {
		noRecord(t, "cut short", right[:n], 4, 3)
	}
}

// P3.4: lengths that are greater than what is there, or than may be.
func TestUnpackLengths(t *testing.T) {
	long := strings.Repeat("x", api.MaxRecord)
	unpacks(t, byHand(1, 60000, 0, 1, long), 1, 0, long, 60032)
	noRecord(t, "too long", byHand(1, 60001, 0, 1, long+"x"), 1, 0)
	noRecord(t, "far too long", byHand(1, 100000, 0, 1, strings.Repeat("x", 100000)), 1, 0)
	for _, size := range []uint32{41, 1000, math.MaxUint32, 1 << 31} {
		noRecord(t, "not all there", byHand(1, size, 0, 1, "a"), 1, 0)
	}
	noRecord(t, "not made up to whole sectors", byHand(1, 41, 0, 1, strings.Repeat("x", 41))[:65], 1, 0)
	noRecord(t, "a length that the sum is not of", byHand(1, 2, 0, 1, "abc"), 1, 0)
}

// P3.4, P6: what no record has is refused, though the bytes stand there.
func TestUnpackNoSuchNumber(t *testing.T) {
	for _, epoch := range []int{-1, math.MinInt, api.MaxEpoch + 1, math.MaxInt} {
		noRecord(t, "epoch", byHand(1, 1, 0, uint64(epoch), "a"), epoch, 0)
	}
	for _, number := range []int{-1, math.MinInt, math.MaxUint32 + 1, math.MaxInt} {
		noRecord(t, "number", byHand(1, 1, uint32(number), 1, "a"), 1, number)
	}
}

// P3.4: the three bytes behind the mark, and those behind the payload, are not looked at.
func TestUnpackNotLookedAt(t *testing.T) {
	s := pack(t, 9, 8, "payload")
	unpacks(t, s[:1]+"xyz"+s[4:24+7]+strings.Repeat("\xff", 64-24-7), 9, 8, "payload", 64)
}

// P3.5: a record in which a bit of the first byte, or of those from the ninth on, is turned, is none.
func TestTurnedBits(t *testing.T) {
	r := rand.New(rand.NewSource(7))
	for _, n := range []int{0, 1, 39, 40, 41, 200} {
		payload := anyText(r, n)
		s := pack(t, r.Intn(api.MaxEpoch), r.Intn(math.MaxUint32), payload)
		epoch, number := int(binary.BigEndian.Uint64([]byte(s[12:20]))), int(binary.BigEndian.Uint32([]byte(s[8:12])))
		unpacks(t, s, epoch, number, payload, len(s))
		for at := range 24 + n {
			if at >= 1 && at < 8 {
				continue
			}
			for bit := range 8 {
				bytes := []byte(s)
				bytes[at] ^= 1 << bit
				noRecord(t, "turned", string(bytes), epoch, number)
			}
		}
	}
}
