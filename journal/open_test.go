package journal_test

import (
	"encoding/binary"
	"errors"
	"hash/crc32"
	"math/rand"
	"slices"
	"strings"
	"testing"

	"storehouse/api"
	"storehouse/disk"
	"storehouse/journal"
)

// headByHand is a half's head of an epoch that Pack may refuse.
func headByHand(epoch uint64) string {
	head := binary.BigEndian.AppendUint32(nil, 7)
	head = binary.BigEndian.AppendUint32(head, 0)
	head = binary.BigEndian.AppendUint64(head, epoch)
	sum := crc32.Checksum(append(slices.Clone(head), "journal"...), crc32.MakeTable(crc32.Castagnoli))
	return "\x01\x00\x00\x00" + string(binary.BigEndian.AppendUint32(head, sum)) + "journal" + strings.Repeat("\x00", 33)
}

// plainRecord is what the record that stands there tells, by the chapters' words: its epoch, number and payload, and how many bytes it has (0: there is none).
func plainRecord(s string) (epoch uint64, number uint32, payload string, size int) {
	if len(s) < 64 || s[0] != 1 {
		return
	}
	b := []byte(s)
	length := int(binary.BigEndian.Uint32(b[4:]))
	whole := (24 + length + 63) / 64 * 64
	if length > 60000 || whole > len(b) {
		return
	}
	summed := append(slices.Clone(b[4:20]), b[24:24+length]...)
	if crc32.Checksum(summed, crc32.MakeTable(crc32.Castagnoli)) != binary.BigEndian.Uint32(b[20:]) {
		return
	}
	return binary.BigEndian.Uint64(b[12:]), binary.BigEndian.Uint32(b[8:]), s[24 : 24+length], whole
}

// right is the epoch of a half; 0, if it is not right.
func right(half string) uint64 {
	epoch, number, payload, size := plainRecord(half)
	if size == 0 || number != 0 || payload != "journal" || epoch > 1<<62 {
		return 0
	}
	return epoch
}

// plainOpen is what stands in these sectors, by the chapter's words: the epoch (0: no journal), the records, and how many sectors are left.
func plainOpen(all string) (epoch uint64, records []string, left int) {
	half := all[:len(all)/2]
	other := all[len(all)/2:]
	if right(other) > right(half) {
		half = other
	}
	epoch = right(half)
	if epoch == 0 {
		return
	}
	half = half[64:]
	for number := uint32(1); ; number++ {
		e, n, payload, size := plainRecord(half)
		if size == 0 || e != epoch || n != number {
			return epoch, records, len(half) / 64
		}
		records = append(records, payload)
		half = half[size:]
	}
}

// agrees asks that Open tells what the chapter's words say of the bytes that stand there.
func agrees(t *testing.T, d *disk.Disk, from, size int) {
	t.Helper()
	epoch, want, left := plainOpen(d.Image()[64*from : 64*(from+size)])
	j, records, err := journal.Open(d, from, size)
	if epoch == 0 {
		is(t, "Open", err, api.ErrBlank)
		if j != nil || len(records) != 0 {
			t.Error(j, records)
		}
		return
	}
	if err != nil {
		t.Errorf("Open: %v, not of the epoch %d", err, epoch)
		return
	}
	tells(t, j, left, size/2-1, int(epoch), len(want))
	if !slices.Equal(records, want) {
		t.Errorf("Open tells %q, not %q", records, want)
	}
}

// P4.5: each bit of a journal's sectors, turned: Open goes by what stands there.
func TestEachBitTurned(t *testing.T) {
	_, d := newDisk(t, 20)
	j := format(t, d, 2, 12)
	is(t, "Append", j.Append("first"), api.OK)
	is(t, "Reset", j.Reset("a", text("b", 2), ""), api.OK)
	is(t, "Append", j.Append("c"), api.OK)
	for at := 2; at < 14; at++ {
		for bit := range 512 {
			is(t, "Rot", d.Rot(at, bit), api.OK)
			agrees(t, d, 2, 12)
			is(t, "Rot", d.Rot(at, bit), api.OK)
			if t.Failed() {
				t.Fatal(at, bit)
			}
		}
	}
	finds(t, d, 2, 12, j, "a", text("b", 2), "", "c")
}

// P4.5: a turned bit of a record takes it away, with all behind it; one of the active head lets the other half be the active one.
func TestTurnedBits(t *testing.T) {
	for _, c := range []struct {
		at, bit int
		want    []string
	}{
		{9, 8 * 24, []string{"a"}}, {9, 0, []string{"a"}}, {9, 8 * 12, []string{"a"}}, {10, 511, []string{"a"}},
		{8, 8 * 11, nil}, {11, 8 * 23, []string{"a", text("b", 2)}},
		{11, 8 * 27, []string{"a", text("b", 2), "c"}}, {8, 8, []string{"a", text("b", 2), "c"}}, // bytes that are not looked at
		{7, 8 * 24, []string{"first"}}, {7, 8 * 19, []string{"first"}}, {7, 3, []string{"first"}}, {7, 511, []string{"a", text("b", 2), "c"}},
	} {
		_, d := newDisk(t, 20)
		j := format(t, d, 2, 10)
		is(t, "Append", j.Append("first"), api.OK)
		is(t, "Reset", j.Reset("a", text("b", 2), "c"), api.OK)
		is(t, "Rot", d.Rot(c.at, c.bit), api.OK)
		agrees(t, d, 2, 10)
		again, records := open(t, d, 2, 10)
		if !slices.Equal(records, c.want) {
			t.Error(c.at, c.bit, records)
		}
		if again.Left() > 0 {
			is(t, "Append", again.Append("more"), api.OK)
			finds(t, d, 2, 10, again, append(slices.Clone(c.want), "more")...)
		}
		is(t, "Reset", again.Reset("new"), api.OK)
		finds(t, d, 2, 10, again, "new")
	}
}

// P4.1, P4.5: of two right halves the one with the greater epoch is active; the first one, if these are the same.
func TestWhichHalf(t *testing.T) {
	for _, c := range []struct {
		first, second uint64
		want          string
	}{
		{1, 2, "second"}, {2, 1, "first"}, {5, 5, "first"}, {0, 1, "second"}, {1, 0, "first"}, {1 << 62, 1<<62 - 1, "first"},
		{7, 1<<62 + 1, "first"}, {1<<64 - 1, 1, "second"}, {1 << 63, 1, "second"}, {255, 256, "second"}, {1 << 32, 1, "first"},
	} {
		_, d := newDisk(t, 20)
		for half, epoch := range []uint64{c.first, c.second} {
			raw(t, d, 4+4*half, headByHand(epoch))
			if epoch <= api.MaxEpoch {
				raw(t, d, 5+4*half, pack(int(epoch), 1, []string{"first", "second"}[half]))
			}
		}
		agrees(t, d, 4, 8)
		j, records := open(t, d, 4, 8)
		if len(records) != 1 || records[0] != c.want {
			t.Error(c, records)
		}
		is(t, "Append", j.Append("more"), api.OK)
		finds(t, d, 4, 8, j, c.want, "more")
		if j.Epoch() < api.MaxEpoch {
			is(t, "Reset", j.Reset("new"), api.OK)
			finds(t, d, 4, 8, j, "new")
		}
	}
}

// P4.5: a half's records end at its end, whatever stands behind it.
func TestRecordsEndWithTheHalf(t *testing.T) {
	_, d := newDisk(t, 20)
	raw(t, d, 4, pack(3, 0, "journal")+pack(3, 1, "a")+pack(3, 2, text("b", 2)))
	agrees(t, d, 4, 6)
	j, records := open(t, d, 4, 6)
	if !slices.Equal(records, []string{"a"}) {
		t.Error(records)
	}
	tells(t, j, 1, 2, 3, 1)
	raw(t, d, 10, pack(4, 0, "journal")+pack(4, 1, "c")+pack(4, 2, "d")+pack(4, 3, "e"))
	agrees(t, d, 6, 8)
	_, records = open(t, d, 6, 8)
	if !slices.Equal(records, []string{"c", "d", "e"}) {
		t.Error(records)
	}
}

// P4.5: sectors of many kinds, in all orders: Open goes by them, and what is appended stands behind what it told.
func TestAnySectors(t *testing.T) {
	r := rand.New(rand.NewSource(4))
	for round := range 20000 {
		p := disk.NewPower()
		d, err := disk.New(p, 12)
		is(t, "New", err, api.OK)
		epoch := 1 + r.Intn(3)
		for at := 0; at < 12; {
			s := anySectors(r, epoch)
			if at%6 == 0 && r.Intn(3) > 0 {
				s = pack(1+r.Intn(3), 0, "journal")
			}
			s = s[:min(len(s), 64*(12-at))]
			raw(t, d, at, s)
			at += len(s) / 64
		}
		agrees(t, d, 0, 12)
		j, records, err := journal.Open(d, 0, 12)
		if errors.Is(err, api.ErrBlank) {
			continue
		}
		is(t, "Open", err, api.OK)
		before := d.Image()
		if s := text("n", 1+r.Intn(3)); j.Append(s) == nil {
			finds(t, d, 0, 12, j, append(records, s)...)
		} else if d.Image() != before {
			t.Error("written")
		}
		if r.Intn(2) == 0 {
			is(t, "Reset", j.Reset("new"), api.OK)
			finds(t, d, 0, 12, j, "new")
		}
		if t.Failed() {
			t.Fatalf("round %d: %q", round, before)
		}
	}
}

// anySectors is a record, or a piece of one, or anything.
func anySectors(r *rand.Rand, epoch int) string {
	s := pack(epoch, r.Intn(6), text("x", 1+r.Intn(3))[r.Intn(30):])
	switch r.Intn(8) {
	case 0:
		return "\x00" + s[1:]
	case 1:
		return s[:64]
	case 2:
		return s[len(s)-64:]
	case 3:
		return strings.Repeat("\x00", 64)
	case 4:
		return strings.Repeat("\x01", 64)
	}
	return s
}
